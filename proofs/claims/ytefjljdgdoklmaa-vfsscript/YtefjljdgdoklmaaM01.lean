import Derived.Test.YtefjljdgdoklmaaRows
import Derived.WalkKit
import Derived.WalkSpells
import Derived.WalkLawsBesides
import Derived.Deep.AppendSrc
import Derived.Laws.AppendOwn
import Derived.Laws.MakeOwn
import Derived.Laws.Cover3
import Derived.Deep.Cut
import Derived.Deep.CutRange
import Derived.Deep.RegionHeldLaw
import Derived.BigQuiet
import Derived.Handy
/-
  What the walks of this seat share: bytes, rows of one's own, what append answers.
-/
namespace Go.Proofs.Ytefjljdgdoklmaa
open Go.RowKit

theorem hide {p : Prop} (h : p) : Hid p := h
theorem then_below {B : Nat} {w w1 w2 : World} (h : Below B w w1) (k : Below w1.heap.size w1 w2) (hB : B ≤ w.heap.size) : Below B w w2 := h.trans (k.mono (Nat.le_trans hB h.size))
theorem lt_of_heap {w : World} {g : Nat} {o : Obj} (h : w.heap[g]? = some o) : g < w.heap.size := by
  rcases Nat.lt_or_ge g w.heap.size with l | l
  · exact l
  · rw [Array.getElem?_eq_none l] at h; cases h
theorem info5 : Try.prog.info? 5 = some Try.t5 := by kernel_rfl

/-- The bytes of a slice. -/
def Bytes (w : World) (v : Value) (bs : List (BitVec 8)) : Prop :=
  ∃ (a : Option Addr) (c : Nat), v = .slice a bs.length c ∧ ∀ k, k < bs.length → ∃ b off, a = some ⟨b, off, none⟩ ∧ w.cell? ⟨b, off + k, none⟩ = some (.int .u8 ((bs.getD k 0).toNat : Int))
theorem Bytes.below {w w' : World} {v : Value} {bs : List (BitVec 8)} (h : Bytes w v bs) (hb : Below w.heap.size w w') : Bytes w' v bs := by
  obtain ⟨a, c, hv, hc⟩ := h
  refine ⟨a, c, hv, fun k hk => ?_⟩
  obtain ⟨b, off, ha, hcell⟩ := hc k hk
  refine ⟨b, off, ha, ?_⟩
  rw [hb.cell (p := ⟨b, off + k, none⟩) (block_lt_of_cell hcell), hcell]
theorem Bytes.empty (w : World) : Bytes w (.slice none 0 0) [] := ⟨_, _, rfl, fun k hk => by simp at hk⟩
theorem Bytes.at {w : World} {b off n c : Nat} {bs : List (BitVec 8)} (h : Bytes w (.slice (some ⟨b, off, none⟩) n c) bs) (k : Nat) (hk : k < bs.length) : w.cell? ⟨b, off + k, none⟩ = some (.int .u8 ((bs.getD k 0).toNat : Int)) := by
  obtain ⟨a, c', hv, hc⟩ := h
  cases hv
  obtain ⟨b', off', ha, hcell⟩ := hc k hk
  cases ha
  exact hcell
theorem Bytes.len {w : World} {a : Option Addr} {n c : Nat} {bs : List (BitVec 8)} (h : Bytes w (.slice a n c) bs) : n = bs.length := by
  obtain ⟨a', c', hv, hc⟩ := h
  cases hv
  rfl
theorem Bytes.addr {w : World} {a : Option Addr} {n c : Nat} {bs : List (BitVec 8)} (h : Bytes w (.slice a n c) bs) (h0 : 0 < n) : ∃ b off, a = some ⟨b, off, none⟩ := by
  obtain ⟨a', c', hv, hc⟩ := h
  cases hv
  obtain ⟨b, off, ha, _⟩ := hc 0 h0
  exact ⟨b, off, ha⟩
/-- A part of bytes. -/
theorem Bytes.part {w : World} {b off n c : Nat} {bs : List (BitVec 8)} (h : Bytes w (.slice (some ⟨b, off, none⟩) n c) bs) (i m c' : Nat) (hm : i + m ≤ bs.length) : Bytes w (.slice (some ⟨b, off + i, none⟩) m c') ((bs.drop i).take m) := by
  have hl : ((bs.drop i).take m).length = m := by rw [List.length_take, List.length_drop]; omega
  refine ⟨_, c', by rw [hl], fun k hk => ⟨b, off + i, rfl, ?_⟩⟩
  rw [hl] at hk
  have := h.at (i + k) (by omega)
  rw [show off + i + k = off + (i + k) by omega, this]
  congr 2
  simp [List.getD, hk]
theorem Bytes.nothing {w : World} (a : Option Addr) (c : Nat) : Bytes w (.slice a 0 c) [] := ⟨a, c, rfl, fun k hk => by simp at hk⟩


/-- The cells of bytes. -/
def cellsOf (bs : List (BitVec 8)) : List Value := bs.map fun b => .int .u8 (b.toNat : Int)

theorem heap_keep {w w' : World} (h : Below w.heap.size w w') {g : Nat} {o : Obj} (e : w.heap[g]? = some o) : w'.heap[g]? = some o := by
  rw [h.block g, e]
  rcases Nat.lt_or_ge g w.heap.size with l | l
  · exact l
  · rw [Array.getElem?_eq_none l] at e; cases e

section
variable {P : Program}
/-- An append whose outcome is known. -/
theorem wpList_append_run {ops : Array Oper} {rest : List Oper} {o : Oper} {a : Act} {w : World} {Q : Exit → Act → World → Prop} (hgd : o.guard = none) (s x : Operand) (t : TypeId)
    (ho : o.op = .call { callee := .builtin .append, args := #[s, x], argTypes := #[t, t] }) (vs vx : Value) (hs : a.eval s = vs) (hx : a.eval x = vx) (v : Value) (w' : World)
    (hr : (Builtin.append_ #[t, t] o.type #[vs, vx]).run P w = .ok v w') (h : wpList P ops Q rest (a.put o.dst v) w') : wpList P ops Q (o :: rest) a w :=
  wpList_plain hgd fun K hK => by
    unfold Oper.wp execOp
    simp only [ho, resolve, invoke, builtin, Sem.run_bind, Sem.run_pure, Result.andThen_ok, List.map_toArray, List.map_cons, List.map_nil, hs, hx, hr]
    exact hK _ _ h

theorem heap_setCells (g : Nat) (t : TypeId) : ∀ (vs : List Value) (o : Nat) (w : World) (cs : Array Value), w.heap[g]? = some (.cells cs t (0, 0)) →
    ∃ cs', (w.setCells g o vs).heap[g]? = some (.cells cs' t (0, 0)) ∧ cs'.size = cs.size ∧ ∀ k, k < cs.size → cs'[k]? = if o ≤ k ∧ k < o + vs.length then vs[k - o]? else cs[k]?
  | [], o, w, cs, h => ⟨cs, h, rfl, fun k _ => by rw [if_neg (by simp)]⟩
  | v :: r, o, w, cs, h => by
    obtain ⟨cs', h1, h2, h3⟩ := heap_setCells g t r (o + 1) (w.setCell ⟨g, o, none⟩ v) _ (heap_setCell_same w g o cs t v h)
    refine ⟨cs', h1, by rw [h2]; simp, fun k hk => ?_⟩
    rw [h3 k (by simpa using hk), Array.getElem?_setIfInBounds]
    by_cases e : k = o
    · subst e
      rw [if_neg (by omega), if_pos rfl, if_pos hk, if_pos (by simp), Nat.sub_self]
      rfl
    · by_cases h2 : o + 1 ≤ k ∧ k < o + 1 + r.length
      · rw [if_pos h2, if_pos (by simp; omega), show k - o = (k - (o + 1)) + 1 by omega, List.getElem?_cons_succ]
      · rw [if_neg h2, if_neg (fun x => e x.symm), if_neg (by simp; omega)]
theorem below_cells {B g : Nat} (hg : B ≤ g) : ∀ (vs : List Value) (o : Nat) {a w : World}, Below B a w → Below B a (w.setCells g o vs)
  | [], _, _, _, h => h
  | v :: r, o, _, _, h => below_cells hg r (o + 1) (h.setCell (by exact hg) v)

/-- A row of one's own: its first cells are told, and there is room up to its end. -/
def RowC (w : World) (g : Nat) (e : TypeId) (room : Nat) (cells : List Value) : Prop :=
  ∃ cs : Array Value, w.heap[g]? = some (.cells cs e (0, 0)) ∧ room ≤ cs.size ∧ ∀ k, k < cells.length → cs[k]? = cells[k]?
theorem RowC.below {w w' : World} {g e room : Nat} {cells : List Value} (h : RowC w g e room cells) (hb : Below w.heap.size w w') : RowC w' g e room cells := by
  obtain ⟨cs, h1, h2, h3⟩ := h
  exact ⟨cs, heap_keep hb h1, h2, h3⟩
theorem RowC.block {w w' : World} {g e room B : Nat} {cells : List Value} (h : RowC w g e room cells) (hb : Below B w w') (hg : g < B) : RowC w' g e room cells := by
  obtain ⟨cs, h1, h2, h3⟩ := h
  exact ⟨cs, (hb.block g hg).trans h1, h2, h3⟩

end
theorem sz5 : Try.t5.size = 1 := by kernel_rfl
theorem bytes5 : Try.t5.bytes = 1 := by kernel_rfl
theorem zero5 : Try.t5.zero = some (.int .u8 0) := by kernel_rfl

/-- What an append of those bytes yields. -/
theorem src_of_bytes {w : World} {v : Value} {bs : List (BitVec 8)} (h : Bytes w v bs) : Src Try.prog Try.t5.size 28 v bs.length (cellsOf bs) w := by
  obtain ⟨a, c, rfl, h⟩ := h
  cases a with
  | none =>
    have hz : bs.length = 0 := by
      rcases Nat.eq_zero_or_pos bs.length with h0 | h0
      · exact h0
      · obtain ⟨_, _, ha, _⟩ := h 0 h0; cases ha
    obtain rfl : bs = [] := by simpa using hz
    exact Src.ofNil w Try.underlying28 c
  | some ad =>
    refine Src.ofSlice w Try.underlying28 ad _ c _ (by simp [cellsOf, sz5]) (fun j u hu => ?_) (fun u hu => ?_)
    · have hj : j < bs.length := by
        rcases Nat.lt_or_ge j bs.length with hl | hl
        · exact hl
        · rw [List.getElem?_eq_none (by simpa [cellsOf] using hl)] at hu; cases hu
      obtain ⟨b, off, ha, hc⟩ := h j hj
      obtain rfl : ad = ⟨b, off, none⟩ := by simpa using ha
      rw [Go.WideShapes.add_plain, hc]
      simpa [cellsOf, hj] using hu
    · obtain ⟨b, _, rfl⟩ := List.mem_map.1 hu
      rfl

/-- Bytes at the head of a row of their own, with room for c. -/
def RowB (w : World) (g c : Nat) (bs : List (BitVec 8)) : Prop := RowC w g 5 c (cellsOf bs)
theorem RowB.bytes {w : World} {g c c' n : Nat} {bs : List (BitVec 8)} (h : RowB w g c bs) (hn : n = bs.length) : Bytes w (.slice (some ⟨g, 0, none⟩) n c') bs := by
  subst hn
  obtain ⟨cs, h1, _, h2⟩ := h
  refine ⟨_, c', rfl, fun k hk => ⟨g, 0, rfl, ?_⟩⟩
  rw [Nat.zero_add, cell_of_row w g k cs 5 (0, 0) h1, h2 k (by simpa [cellsOf] using hk)]
  simp [cellsOf, hk]
theorem cellsOf_append (a b : List (BitVec 8)) : cellsOf (a ++ b) = cellsOf a ++ cellsOf b := by simp [cellsOf]
theorem cellsOf_length (a : List (BitVec 8)) : (cellsOf a).length = a.length := by simp [cellsOf]

theorem heap_setCells_ne (g : Nat) : ∀ (vs : List Value) (o : Nat) (w : World) (b : Nat), b ≠ g → (w.setCells g o vs).heap[b]? = w.heap[b]?
  | [], _, _, _, _ => rfl
  | v :: r, o, w, b, h => by
    rw [show w.setCells g o (v :: r) = (w.setCell ⟨g, o, none⟩ v).setCells g (o + 1) r from rfl, heap_setCells_ne g r (o + 1) _ b h, heap_setCell_other _ _ _ _ (by exact h)]

section
variable {P : Program}
/-- What append answers: behind 'old', 'news' (n items), in a row of one's own. -/
theorem append_gen2 (w : World) (B : Nat) (t e : TypeId) (i : TypeInfo) (z : Value) (ht : P.underlying t = some (.slice e)) (hi : P.info? e = some i) (hz : i.zero = some z) (hzc : z.cells.size = i.size)
    (base : Option Addr) (sLen sCap : Nat) (old : List Value) (hold : old.length = sLen * i.size) (x : Value) (n : Nat) (news : List Value) (hs : Src P i.size t x n news w) (hB : B ≤ w.heap.size)
    (hbase : (base = none ∧ sLen = 0 ∧ sCap = 0 ∧ 0 < n) ∨ ∃ g, base = some ⟨g, 0, none⟩ ∧ B ≤ g ∧ sLen ≤ sCap ∧ RowC w g e (sCap * i.size) old) (hfit : (sLen + n) * i.bytes ≤ 140737488355328) (hsm : sLen + n ≤ 140737488355328) :
    ∃ g c w', (∀ ty, (Builtin.append_ #[t, t] ty #[.slice base sLen sCap, x]).run P w = .ok (.slice (some ⟨g, 0, none⟩) (sLen + n) c) w') ∧ B ≤ g ∧ RowC w' g e (c * i.size) (old ++ news) ∧ Below B w w' ∧ sLen + n ≤ c ∧ (sLen + n ≤ sCap → base = some ⟨g, 0, none⟩ ∧ c = sCap) ∧ (sCap < sLen + n → g = w.heap.size) ∧ (∀ b, b < w.heap.size → base ≠ some ⟨b, 0, none⟩ → w'.heap[b]? = w.heap[b]?) := by
  by_cases hroom : sLen + n ≤ sCap
  · rcases hbase with ⟨_, _, _, _⟩ | ⟨g, rfl, hg, hlc, cs, h1, h2, h3⟩
    · omega
    · have hsz : (sLen + n) * i.size ≤ sCap * i.size := Nat.mul_le_mul_right _ hroom
      have hnl := hs.newsLen
      rw [Nat.add_mul] at hsz
      have hr := fun ty => run_append_room_src (P := P) w t t ty e i ht hi g 0 sLen sCap x n news hs hroom
        (fun j hj => by rw [cell_of_row w g _ cs e (0, 0) h1, Nat.zero_add, Array.getElem?_eq_getElem (by omega)]; rfl)
        (fun j hj => frozen_of_row w g _ cs e h1)
      rw [Nat.zero_add] at hr
      obtain ⟨cs', k1, k2, k3⟩ := heap_setCells g e news (sLen * i.size) w cs h1
      refine ⟨g, sCap, _, hr, hg, ⟨cs', k1, by omega, fun k hk => ?_⟩, below_cells hg _ _ (Below.refl _ _), hroom, fun _ => ⟨rfl, rfl⟩, fun h => by omega, fun b _ hb => heap_setCells_ne g _ _ w b (fun e => hb (by rw [e]))⟩
      rw [List.length_append] at hk
      rw [k3 k (by omega), List.getElem?_append]
      by_cases hk2 : k < old.length
      · rw [if_neg (by omega), if_pos hk2, h3 k hk2]
      · rw [if_pos (by omega), if_neg hk2, hold]
  · have hcap : sCap < sLen + n := by omega
    have hold' : (Builtin.firstCells i.size sLen (.slice base sLen sCap)).run P w.drew = .ok old.toArray w.drew := by
      rcases hbase with ⟨rfl, rfl, rfl, _⟩ | ⟨g, rfl, hg, hlc, cs, h1, h2, h3⟩
      · obtain rfl : old = [] := by simpa using hold
        rfl
      · have := Nat.mul_le_mul_right i.size hlc
        refine run_firstCells_some (P := P) w.drew _ _ _ _ _ old hold (fun j v hv => ?_)
        have hj : j < old.length := by
          rcases Nat.lt_or_ge j old.length with h | h
          · exact h
          · rw [List.getElem?_eq_none h] at hv; cases hv
        rw [Go.WideShapes.add_plain, Nat.zero_add, cell_of_row w.drew g j cs e (0, 0) h1, h3 j hj, hv]
    have hr := fun ty => run_append_grow_src (P := P) w t t ty e i z ht hi hz base sLen sCap old hold' x n news hs hcap (by omega) (growslice_fits hcap hfit)
    have hge := grownCap_ge w (sLen + n) sCap e
    generalize grownCap w (sLen + n) sCap e = cp at *
    have hnl := hs.newsLen
    refine ⟨w.heap.size, cp, _, hr, hB, ⟨_, heap_alloc_new w.drew _, ?_, fun k hk => ?_⟩, (Below.refl _ _).drew.alloc hB _, hge, fun h => by omega, fun _ => rfl, fun b hb _ => heap_alloc_old w.drew _ hb⟩
    · rw [Array.size_append, size_zeroCells, List.size_toArray, List.length_append, hold, hnl, hzc, ← Nat.add_mul, ← Nat.add_mul]
      exact Nat.mul_le_mul_right _ (by omega)
    · rw [Array.getElem?_append_left (by simpa using hk)]
      simp
end
/-- Append of bytes. -/
theorem append_bytes2 (w : World) (B : Nat) (base : Option Addr) (sLen sCap : Nat) (bs : List (BitVec 8)) (hl : sLen = bs.length) (x : Value) (news : List (BitVec 8)) (n : Nat) (hn : n = news.length) (hx : Bytes w x news) (hB : B ≤ w.heap.size)
    (hbase : (base = none ∧ sLen = 0 ∧ sCap = 0 ∧ 0 < n) ∨ ∃ g, base = some ⟨g, 0, none⟩ ∧ B ≤ g ∧ sLen ≤ sCap ∧ RowB w g sCap bs) (hsm : sLen + n ≤ 140737488355328) :
    ∃ g c w', (∀ ty, (Builtin.append_ #[28, 28] ty #[.slice base sLen sCap, x]).run Try.prog w = .ok (.slice (some ⟨g, 0, none⟩) (sLen + n) c) w') ∧ B ≤ g ∧ RowB w' g c (bs ++ news) ∧ Below B w w' ∧ sLen + n ≤ c ∧ (sLen + n ≤ sCap → base = some ⟨g, 0, none⟩ ∧ c = sCap) ∧ (sCap < sLen + n → g = w.heap.size) ∧ (∀ b, b < w.heap.size → base ≠ some ⟨b, 0, none⟩ → w'.heap[b]? = w.heap[b]?) := by
  subst hn
  have := append_gen2 (P := Try.prog) w B 28 5 Try.t5 (.int .u8 0) Try.underlying28 info5 zero5 rfl base sLen sCap (cellsOf bs) (by rw [cellsOf_length, sz5, hl, Nat.mul_one]) x news.length (cellsOf news) (src_of_bytes hx) hB (by rw [sz5, Nat.mul_one]; exact hbase) (by rw [bytes5]; omega) hsm
  rw [sz5] at this
  simp only [Nat.mul_one, ← cellsOf_append] at this
  exact this

end Go.Proofs.Ytefjljdgdoklmaa

/-
  What may be a file's name: the code's answer and the document's, of any text.
-/
namespace Go.Proofs.Ytefjljdgdoklmaa
open Go.RowKit

/-- May a byte be in a name? -/
def goodB (c : UInt8) : Bool := (97 ≤ c.toNat && c.toNat ≤ 122) || (48 ≤ c.toNat && c.toNat ≤ 57) || c.toNat == 45 || c.toNat == 46
/-- May a text be a name? -/
def goodN (s : ByteArray) : Bool := decide (1 ≤ s.size) && decide (s.size ≤ 64) && s.data.toList.all goodB

theorem ret_bool {b x : Bool} (h : b = x) : Ending.returned (.bool b) = .returned (.bool x) := by rw [h]

set_option maxRecDepth 100000 in
set_option maxHeartbeats 1000000 in
theorem stands_any (c : UInt8) (w : World) :
    Calls Try.prog 54 #[.int .u8 (c.toNat : Int)] w fun e w' => e = .returned (.bool (goodB c)) ∧ w' = w := by
  go_enter Try.func54, Try.ntmps54
  go_wp2
  all_goals
    go_ret
    refine ⟨ret_bool (x := goodB c) ?_, rfl⟩
    rw [Bool.eq_iff_iff]
    simp [goodB]
    try omega

theorem all_good (s : ByteArray) : s.data.toList.all goodB = true ↔ ∀ j (hj : j < s.size), goodB s[j] = true := by
  rw [List.all_eq_true]
  constructor
  · intro h j hj
    exact h _ (by rw [show s[j] = s.data[j] from rfl]; exact Array.mem_toList_iff.2 (Array.getElem_mem hj))
  · intro h x hx
    obtain ⟨j, hj, rfl⟩ := Array.mem_iff_getElem.1 (Array.mem_toList_iff.1 hx)
    exact h j hj

set_option maxRecDepth 100000 in
set_option maxHeartbeats 1000000 in
theorem name_any (s : ByteArray) (w : World) :
    Calls Try.prog 22 #[.string s] w fun e w' => e = .returned (.bool (goodN s)) ∧ w' = w := by
  by_cases hlen : 1 ≤ s.size ∧ s.size ≤ 64
  · obtain ⟨l1, l2⟩ := hlen
    have g1 : ¬ (s.size : Int) < 1 := by omega
    have g2 : ¬ (64 : Int) < (s.size : Int) := by omega
    have hgn : goodN s = s.data.toList.all goodB := by unfold goodN; rw [decide_eq_true l1, decide_eq_true l2]; rfl
    have HGN := hide hgn
    clear hgn
    go_enter Try.func22, Try.ntmps22
    go_wp2
    go_loopw [14] (fun iv wr => ∃ k : Nat, iv = .int .i64 (k : Nat) ∧ k ≤ s.size ∧ (∀ j (_ : j < s.size), j < k → goodB s[j] = true) ∧ wr = w) (fun iv _ => s.size - (intOf iv).toNat)
    case atStart => exact ⟨0, rfl, Nat.zero_le _, fun j _ hj => by omega, rfl⟩
    case round =>
      obtain ⟨k, rfl, hk, hall, rfl⟩ := hrel
      have HA := hide hall
      clear hall
      by_cases hkn : k < s.size
      · have i1 : (k : Int) < (s.size : Int) := by omega
        go_wp2_with fail
        refine (stands_any _ _).mono ?_
        rintro e w1 ⟨rfl, rfl⟩
        by_cases hg : goodB s[k] = true
        · rw [hg]
          go_wp2_with fail
          go_roundw
          case rel =>
            refine ⟨k + 1, by go_num, by omega, fun j hj hjk => ?_, by trivial⟩
            rcases Nat.lt_or_ge j k with h | h
            · exact HA.out j hj h
            · obtain rfl : j = k := by omega
              exact hg
          case measure => simp [intOf]; omega
        · rw [Bool.not_eq_true] at hg
          have HG := hide hg
          rw [hg]
          clear hg
          go_wp2_with fail
          go_ret
          refine ⟨ret_bool (x := goodN s) ?_, rfl⟩
          rw [HGN.out, eq_comm, Bool.eq_false_iff]
          intro h
          have := (all_good s).1 h k hkn
          rw [HG.out] at this
          cases this
      · obtain rfl : k = s.size := by omega
        go_wp2_with fail
        go_ret
        refine ⟨ret_bool (x := goodN s) ?_, rfl⟩
        rw [HGN.out, eq_comm]
        exact (all_good s).2 fun j hj => HA.out j hj hj
  · have hgn : goodN s = false := by
      unfold goodN
      rw [Bool.and_eq_false_iff, Bool.and_eq_false_iff]
      left
      rcases Nat.lt_or_ge s.size 1 with h | h
      · left
        exact decide_eq_false (by omega)
      · right
        exact decide_eq_false (by omega)
    have HGN := hide hgn
    clear hgn
    by_cases h1 : s.size < 1
    · have g1 : (s.size : Int) < 1 := by omega
      go_enter Try.func22, Try.ntmps22
      go_wp2
      go_ret
      exact ⟨by rw [HGN.out]; rfl, rfl⟩
    · have g1 : ¬ (s.size : Int) < 1 := by omega
      have g2 : (64 : Int) < (s.size : Int) := by omega
      go_enter Try.func22, Try.ntmps22
      go_wp2
      go_ret
      exact ⟨by rw [HGN.out]; rfl, rfl⟩

theorem byteClass (c : Nat) : (97 ≤ c ∧ c ≤ 122) ∨ (48 ≤ c ∧ c ≤ 57) ∨ c = 45 ∨ c = 46 ∨ 122 < c ∨ (57 < c ∧ c < 97) ∨ (c < 48 ∧ c ≠ 45 ∧ c ≠ 46) := by omega

set_option maxRecDepth 100000 in
set_option maxHeartbeats 2000000 in
theorem rname_any (s : ByteArray) (w : World) (hs : s.size ≤ 1000) :
    Calls Try.prog 28 #[.string s] w fun e w' => e = .returned (.bool (goodN s)) ∧ w' = w := by
  go_enter Try.func28, Try.ntmps28
  go_wp2
  go_loopw [3] (fun iv wr => ∃ k : Nat, iv = .int .i64 (k : Nat) ∧ k ≤ s.size ∧ (∀ j (_ : j < s.size), j < k → goodB s[j] = true) ∧ wr = w) (fun iv _ => s.size - (intOf iv).toNat)
  case atStart => exact ⟨0, rfl, Nat.zero_le _, fun j _ hj => by omega, rfl⟩
  case round =>
    obtain ⟨k, rfl, hk, hall, rfl⟩ := hrel
    have HA := hide hall
    clear hall
    by_cases hkn : k < s.size
    · have i1 : (k : Int) < (s.size : Int) := by omega
      have hgb : goodB s[k] = ((97 ≤ s[k].toNat && s[k].toNat ≤ 122) || (48 ≤ s[k].toNat && s[k].toNat ≤ 57) || s[k].toNat == 45 || s[k].toNat == 46) := rfl
      have hbad : goodB s[k] = false → goodN s = false := fun h => by
        rw [Bool.eq_false_iff]
        intro h2
        unfold goodN at h2
        rw [Bool.and_eq_true] at h2
        have := (all_good s).1 h2.2 k hkn
        rw [h] at this
        cases this
      have hgood : goodB s[k] = true → ∀ j (_ : j < s.size), j < k + 1 → goodB s[j] = true := fun hg j hj hjk => by
        rcases Nat.lt_or_ge j k with h | h
        · exact HA.out j hj h
        · obtain rfl : j = k := by omega
          exact hg
      have HGB := hide hgb
      have HBAD := hide hbad
      have HGOOD := hide hgood
      clear hgb hbad hgood
      rcases byteClass s[k].toNat with ⟨p1, p2⟩ | ⟨p1, p2⟩ | p1 | p1 | p1 | ⟨p1, p2⟩ | ⟨p1, p2, p3⟩
      all_goals
        try have f1 : (97 : Int) ≤ (s[k].toNat : Int) := by omega
        try have f2 : ¬ (97 : Int) ≤ (s[k].toNat : Int) := by omega
        try have f3 : (s[k].toNat : Int) ≤ 122 := by omega
        try have f4 : ¬ (s[k].toNat : Int) ≤ 122 := by omega
        try have f5 : (48 : Int) ≤ (s[k].toNat : Int) := by omega
        try have f6 : ¬ (48 : Int) ≤ (s[k].toNat : Int) := by omega
        try have f7 : (s[k].toNat : Int) ≤ 57 := by omega
        try have f8 : ¬ (s[k].toNat : Int) ≤ 57 := by omega
        try have f9 : ((s[k].toNat : Int) == 45) = true := by rw [beq_iff_eq]; omega
        try have f10 : ((s[k].toNat : Int) == 45) = false := by rw [beq_eq_false_iff_ne]; omega
        try have f11 : ((s[k].toNat : Int) == 46) = true := by rw [beq_iff_eq]; omega
        try have f12 : ((s[k].toNat : Int) == 46) = false := by rw [beq_eq_false_iff_ne]; omega
        go_wp2_with fail
      all_goals first
        | (go_ret
           refine ⟨ret_bool (x := goodN s) ?_, rfl⟩
           rw [HBAD.out (by rw [HGB.out, Bool.eq_false_iff]; simp; omega)])
        | (refine ⟨⟨k + 1, by go_num, by omega, HGOOD.out (by rw [HGB.out]; simp; omega), by trivial⟩, ?_⟩
           simp [intOf]
           omega)
    · obtain rfl : k = s.size := by omega
      have hgn : goodN s = (decide (1 ≤ s.size) && decide (s.size ≤ 64)) := by
        unfold goodN
        rw [(all_good s).2 fun j hj => HA.out j hj hj, Bool.and_true]
      have HGN := hide hgn
      clear hgn
      by_cases h1 : 1 ≤ s.size
      · by_cases h2 : s.size ≤ 64
        · have g1 : (1 : Int) ≤ (s.size : Int) := by omega
          have g2 : (s.size : Int) ≤ 64 := by omega
          go_wp2_with fail
          go_ret
          exact ⟨by rw [HGN.out, decide_eq_true h1, decide_eq_true h2]; rfl, rfl⟩
        · have g1 : (1 : Int) ≤ (s.size : Int) := by omega
          have g2 : ¬ (s.size : Int) ≤ 64 := by omega
          go_wp2_with fail
          go_ret
          exact ⟨by rw [HGN.out, decide_eq_true h1, decide_eq_false h2]; rfl, rfl⟩
      · have g1 : ¬ (1 : Int) ≤ (s.size : Int) := by omega
        go_wp2_with fail
        go_ret
        exact ⟨by rw [HGN.out, decide_eq_false h1]; rfl, rfl⟩
end Go.Proofs.Ytefjljdgdoklmaa

/-
  The guard that every operation goes through.
-/
namespace Go.Proofs.Ytefjljdgdoklmaa
open Go.RowKit

/-- The cells of a file system. -/
def fsCells (limit : Int) (nm sy ch : Value) (used lost : Int) (on : Bool) (ops fuse fault fail : Int) : Array Value :=
  #[.int .i64 limit, nm, sy, ch, .int .i64 used, .int .i64 lost, .bool on, .int .i64 ops, .int .i64 fuse, .int .i64 fault, .int .i64 fail]

theorem map_ne (b : Nat) (w : World) : (binOp .neq 53 (.map (some b)) (.map none)).run Try.prog w = .ok (.bool true) w := by kernel_rfl
theorem map_nil (w : World) : (binOp .neq 53 (.map none) (.map none)).run Try.prog w = .ok (.bool false) w := by kernel_rfl

set_option maxRecDepth 100000 in
set_option maxHeartbeats 1000000 in
theorem made_yes (f b : Nat) (w : World) (h : w.cell? ⟨f, 1, none⟩ = some (.map (some b))) :
    Calls Try.prog 41 #[.pointer (some ⟨f, 0, none⟩)] w fun e w' => e = .returned (.bool true) ∧ w' = w := by
  have hm := map_ne b
  go_enter Try.func41, Try.ntmps41
  go_wp2
  go_ret
  exact ⟨rfl, rfl⟩
set_option maxRecDepth 100000 in
set_option maxHeartbeats 1000000 in
theorem made_not (f : Nat) (w : World) (h : w.cell? ⟨f, 1, none⟩ = some (.map none)) :
    Calls Try.prog 41 #[.pointer (some ⟨f, 0, none⟩)] w fun e w' => e = .returned (.bool false) ∧ w' = w := by
  have hm := map_nil
  go_enter Try.func41, Try.ntmps41
  go_wp2
  go_ret
  exact ⟨rfl, rfl⟩
set_option maxRecDepth 100000 in
set_option maxHeartbeats 1000000 in
theorem made_nil (w : World) :
    Calls Try.prog 41 #[.pointer none] w fun e w' => e = .returned (.bool false) ∧ w' = w := by
  go_enter Try.func41, Try.ntmps41
  go_wp2
  go_ret
  exact ⟨rfl, rfl⟩
/-- What a countdown is behind one operation. -/
def tick (n : Int) : Int := if n < 0 then n else n - 1
set_option maxRecDepth 100000 in
set_option maxHeartbeats 1000000 in
theorem strikes_neg (g o : Nat) (n : Int) (w : World) (h : w.cell? ⟨g, o, none⟩ = some (.int .i64 n)) (h0 : n < 0) :
    Calls Try.prog 71 #[.pointer (some ⟨g, o, none⟩)] w fun e w' => e = .returned (.bool false) ∧ w' = w := by
  go_enter Try.func71, Try.ntmps71
  go_wp2
  go_ret
  exact ⟨rfl, rfl⟩
set_option maxRecDepth 100000 in
set_option maxHeartbeats 1000000 in
theorem strikes_pos (g o : Nat) (n : Int) (w : World) (h : w.cell? ⟨g, o, none⟩ = some (.int .i64 n)) (hf : w.frozen? ⟨g, o, none⟩ = false) (hn : n ≤ 9223372036854775807) (h0 : ¬ n < 0) :
    Calls Try.prog 71 #[.pointer (some ⟨g, o, none⟩)] w fun e w' => e = .returned (.bool (decide (n = 0))) ∧ w' = w.setCell ⟨g, o, none⟩ (.int .i64 (n - 1)) := by
  go_enter Try.func71, Try.ntmps71
  go_wp2
  go_ret
  exact ⟨ret_bool (by rw [decide_eq_decide]; omega), rfl⟩

/-- Only block f has turned, and it holds these cells. -/
def Tick (w w' : World) (f : Nat) (t : TypeId) (cs : Array Value) : Prop :=
  w'.heap[f]? = some (.cells cs t (0, 0)) ∧ w'.heap.size = w.heap.size ∧ (∀ b, b ≠ f → w'.heap[b]? = w.heap[b]?) ∧ ∀ B, B ≤ f → Below B w w'
theorem Tick.refl {w : World} {f : Nat} {t : TypeId} {cs : Array Value} (h : w.heap[f]? = some (.cells cs t (0, 0))) : Tick w w f t cs := ⟨h, rfl, fun _ _ => rfl, fun _ _ => Below.refl _ _⟩
theorem Tick.set {w w' : World} {f : Nat} {t : TypeId} {cs : Array Value} (h : Tick w w' f t cs) (o : Nat) (v : Value) : Tick w (w'.setCell ⟨f, o, none⟩ v) f t (cs.setIfInBounds o v) := by
  obtain ⟨h1, h2, h3, h4⟩ := h
  exact ⟨heap_setCell_same w' f o cs t v h1, by rw [← h2]; simp, fun b hb => (heap_setCell_other _ _ _ _ (by exact hb)).trans (h3 b hb), fun B hB => (h4 B hB).setCell (by exact hB) v⟩
theorem Tick.drew {w w' : World} {f : Nat} {t : TypeId} {cs : Array Value} (h : Tick w w' f t cs) : Tick w w'.drew f t cs := by
  obtain ⟨h1, h2, h3, h4⟩ := h
  exact ⟨h1, h2, h3, fun B hB => (h4 B hB).drew⟩
theorem Tick.cell {w w' : World} {f : Nat} {t : TypeId} {cs : Array Value} (h : Tick w w' f t cs) (o : Nat) : w'.cell? ⟨f, o, none⟩ = cs[o]? := cell_of_row w' f o cs t (0, 0) h.1
theorem Tick.frozen {w w' : World} {f : Nat} {t : TypeId} {cs : Array Value} (h : Tick w w' f t cs) (o : Nat) : w'.frozen? ⟨f, o, none⟩ = false := frozen_of_row w' f o cs t h.1
theorem strikes_any {W w : World} {f : Nat} {t : TypeId} {cs : Array Value} (h : Tick W w f t cs) (o : Nat) (n : Int) (ho : cs[o]? = some (.int .i64 n)) (hn : n ≤ 9223372036854775807) :
    Calls Try.prog 71 #[.pointer (some ⟨f, o, none⟩)] w fun e w' => e = .returned (.bool (decide (n = 0))) ∧ Tick W w' f t (cs.setIfInBounds o (.int .i64 (tick n))) := by
  by_cases h0 : n < 0
  · refine (strikes_neg f o n w ((h.cell o).trans ho) h0).mono fun e w' ⟨he, hw⟩ => ⟨?_, ?_⟩
    · rw [he, decide_eq_false (by omega)]
    · subst hw
      have : cs.setIfInBounds o (.int .i64 (tick n)) = cs := by
        unfold tick
        rw [if_pos h0]
        apply Array.ext_getElem?
        intro i
        rw [Array.getElem?_setIfInBounds]
        by_cases e : o = i
        · subst e
          rw [if_pos rfl, ho]
          have : o < cs.size := by
            rcases Nat.lt_or_ge o cs.size with l | l
            · exact l
            · rw [Array.getElem?_eq_none l] at ho; cases ho
          rw [if_pos this]
        · rw [if_neg e]
      rw [this]
      exact h
  · refine (strikes_pos f o n w ((h.cell o).trans ho) (h.frozen o) hn h0).mono fun e w' ⟨he, hw⟩ => ⟨he, ?_⟩
    subst hw
    have := h.set o (.int .i64 (n - 1))
    unfold tick
    rw [if_neg h0]
    exact this

set_option maxRecDepth 100000 in
set_option maxHeartbeats 4000000 in
theorem operate_go (f b N : Nat) (caps : Array Value) (hent : ∀ w, (callFunc N caps).run Try.prog w = .ok (.enter N caps) w) (limit used lost ops fuse fault fail : Int) (sy ch : Value) (w : World) (h : w.heap[f]? = some (.cells (fsCells limit (.map (some b)) sy ch used lost true ops fuse fault fail) 57 (0, 0)))
    (h7 : 0 ≤ ops ∧ ops ≤ 1000000) (h8 : fuse ≤ 9223372036854775807) (h9 : fault ≤ 9223372036854775807) (n8 : fuse ≠ 0) (n9 : fault ≠ 0) (R : Ending → World → Prop)
    (HR : ∀ wc, Tick w wc f 57 (fsCells limit (.map (some b)) sy ch used lost true (ops + 1) (tick fuse) (tick fault) fail) → Calls Try.prog N caps wc fun e w' => ∃ z : Int, e = .returned (.int .i64 z) ∧ R (.returned (.int .i64 z)) w') :
    Calls Try.prog 36 #[.pointer (some ⟨f, 0, none⟩), .bool true, .func (.func N) #[] caps] w R := by
  have c1 : w.cell? ⟨f, 1, none⟩ = some (.map (some b)) := cell_of_row w f 1 _ 57 (0, 0) h
  have c6 : w.cell? ⟨f, 6, none⟩ = some (.bool true) := cell_of_row w f 6 _ 57 (0, 0) h
  have c7 : w.cell? ⟨f, 7, none⟩ = some (.int .i64 ops) := cell_of_row w f 7 _ 57 (0, 0) h
  have z7 : w.frozen? ⟨f, 7, none⟩ = false := frozen_of_row w f 7 _ 57 h
  have T0 := hide ((Tick.refl h).set 7 (.int .i64 (ops + 1)))
  clear h
  have HRR := hide HR
  clear HR
  go_enter Try.func36, Try.ntmps36
  go_wp2_with fail
  refine (made_yes f b _ c1).mono ?_
  rintro e w1 ⟨rfl, rfl⟩
  go_wp2_with fail
  go_cut [7, 8] from 29 to 36 (fun v7 v8 wx => v7 = .bool false ∧ v8 = .bool false ∧ Tick w1 wx f 57 (fsCells limit (.map (some b)) sy ch used lost true (ops + 1) (tick fuse) (tick fault) fail))
  case first =>
    have TC := hide T0.out.drew
    go_region_with (first
      | (go_at_call_of 71 (Value.pointer (some ⟨f, 8, none⟩)); refine (strikes_any TC.out 8 fuse rfl h8).mono ?_; rintro e w2 ⟨rfl, t2⟩; have TC := hide t2; rw [decide_eq_false n8]; clear t2)
      | (go_at_call_of 71 (Value.pointer (some ⟨f, 9, none⟩)); refine (strikes_any TC.out 9 fault rfl h9).mono ?_; rintro e w3 ⟨rfl, t3⟩; have TC := hide t3; rw [decide_eq_false n9]; clear t3))
    all_goals go_wp2_with fail
    all_goals go_meet
    all_goals exact ⟨rfl, rfl, TC.out⟩
  case rest =>
    obtain ⟨rfl, rfl, hT⟩ := hcut
    have HT := hide hT
    clear hT c1 c6 c7 z7 T0
    go_wp2_with fail
    refine (HRR.out wc HT.out).mono ?_
    rintro e w2 ⟨z, rfl, hz⟩
    go_wp2_with fail
    exact hz

set_option maxRecDepth 100000 in
set_option maxHeartbeats 4000000 in
theorem operate_fuse (f b : Nat) (fv : Value) (limit used lost ops fuse fault fail : Int) (sy ch : Value) (w : World) (h : w.heap[f]? = some (.cells (fsCells limit (.map (some b)) sy ch used lost true ops fuse fault fail) 57 (0, 0)))
    (h7 : 0 ≤ ops ∧ ops ≤ 1000000) (h8 : fuse ≤ 9223372036854775807) (h9 : fault ≤ 9223372036854775807) (n8 : fuse = 0) :
    Calls Try.prog 36 #[.pointer (some ⟨f, 0, none⟩), .bool true, fv] w fun e w' => e = .returned (.int .i64 9) ∧ Tick w w' f 57 (fsCells limit (.map (some b)) sy ch used lost false (ops + 1) (tick fuse) (tick fault) fail) := by
  have c1 : w.cell? ⟨f, 1, none⟩ = some (.map (some b)) := cell_of_row w f 1 _ 57 (0, 0) h
  have c6 : w.cell? ⟨f, 6, none⟩ = some (.bool true) := cell_of_row w f 6 _ 57 (0, 0) h
  have c7 : w.cell? ⟨f, 7, none⟩ = some (.int .i64 ops) := cell_of_row w f 7 _ 57 (0, 0) h
  have z7 : w.frozen? ⟨f, 7, none⟩ = false := frozen_of_row w f 7 _ 57 h
  have T0 := hide ((Tick.refl h).set 7 (.int .i64 (ops + 1)))
  clear h
  go_enter Try.func36, Try.ntmps36
  go_wp2_with fail
  refine (made_yes f b _ c1).mono ?_
  rintro e w1 ⟨rfl, rfl⟩
  go_wp2_with fail
  go_cut [7, 8] from 29 to 36 (fun v7 v8 wx => v7 = .bool true ∧ v8 = .bool (decide (fault = 0)) ∧ Tick w1 wx f 57 (fsCells limit (.map (some b)) sy ch used lost true (ops + 1) (tick fuse) (tick fault) fail))
  case first =>
    rename_i qq kk rest jj kk' m1 m2
    clear rest
    have TC := hide T0.out.drew
    go_region_with (first
      | (go_at_call_of 71 (Value.pointer (some ⟨f, 8, none⟩)); refine (strikes_any TC.out 8 fuse rfl h8).mono ?_; rintro e w2 ⟨rfl, t2⟩; have TC := hide t2; rw [decide_eq_true n8]; clear t2)
      | (go_at_call_of 71 (Value.pointer (some ⟨f, 9, none⟩)); refine (strikes_any TC.out 9 fault rfl h9).mono ?_; rintro e w3 ⟨rfl, t3⟩; have TC := hide t3; clear t3))
    all_goals go_wp2_with fail
    all_goals go_meet
    all_goals exact ⟨rfl, rfl, TC.out⟩
  case rest =>
    obtain ⟨rfl, rfl, hT⟩ := hcut
    have HT := hide hT
    clear hT c1 c6 c7 z7 T0
    have z6 := HT.out.frozen 6
    have k6 : wc.cell? ⟨f, 6, none⟩ = some (.bool true) := HT.out.cell 6
    go_wp2_with fail
    go_ret
    exact ⟨rfl, HT.out.set 6 (.bool false)⟩

set_option maxRecDepth 100000 in
set_option maxHeartbeats 4000000 in
theorem operate_fault (f b : Nat) (fv : Value) (limit used lost ops fuse fault fail : Int) (sy ch : Value) (w : World) (h : w.heap[f]? = some (.cells (fsCells limit (.map (some b)) sy ch used lost true ops fuse fault fail) 57 (0, 0)))
    (h7 : 0 ≤ ops ∧ ops ≤ 1000000) (h8 : fuse ≤ 9223372036854775807) (h9 : fault ≤ 9223372036854775807) (n8 : fuse ≠ 0) (n9 : fault = 0) :
    Calls Try.prog 36 #[.pointer (some ⟨f, 0, none⟩), .bool true, fv] w fun e w' => e = .returned (.int .i64 fail) ∧ Tick w w' f 57 (fsCells limit (.map (some b)) sy ch used lost true (ops + 1) (tick fuse) (tick fault) fail) := by
  have c1 : w.cell? ⟨f, 1, none⟩ = some (.map (some b)) := cell_of_row w f 1 _ 57 (0, 0) h
  have c6 : w.cell? ⟨f, 6, none⟩ = some (.bool true) := cell_of_row w f 6 _ 57 (0, 0) h
  have c7 : w.cell? ⟨f, 7, none⟩ = some (.int .i64 ops) := cell_of_row w f 7 _ 57 (0, 0) h
  have z7 : w.frozen? ⟨f, 7, none⟩ = false := frozen_of_row w f 7 _ 57 h
  have T0 := hide ((Tick.refl h).set 7 (.int .i64 (ops + 1)))
  clear h
  go_enter Try.func36, Try.ntmps36
  go_wp2_with fail
  refine (made_yes f b _ c1).mono ?_
  rintro e w1 ⟨rfl, rfl⟩
  go_wp2_with fail
  go_cut [7, 8] from 29 to 36 (fun v7 v8 wx => v7 = .bool false ∧ v8 = .bool true ∧ Tick w1 wx f 57 (fsCells limit (.map (some b)) sy ch used lost true (ops + 1) (tick fuse) (tick fault) fail))
  case first =>
    rename_i qq kk rest jj kk' m1 m2
    clear rest
    have TC := hide T0.out.drew
    go_region_with (first
      | (go_at_call_of 71 (Value.pointer (some ⟨f, 8, none⟩)); refine (strikes_any TC.out 8 fuse rfl h8).mono ?_; rintro e w2 ⟨rfl, t2⟩; have TC := hide t2; rw [decide_eq_false n8]; clear t2)
      | (go_at_call_of 71 (Value.pointer (some ⟨f, 9, none⟩)); refine (strikes_any TC.out 9 fault rfl h9).mono ?_; rintro e w3 ⟨rfl, t3⟩; have TC := hide t3; rw [decide_eq_true n9]; clear t3))
    all_goals go_wp2_with fail
    all_goals go_meet
    all_goals exact ⟨rfl, rfl, TC.out⟩
  case rest =>
    obtain ⟨rfl, rfl, hT⟩ := hcut
    have HT := hide hT
    clear hT c1 c6 c7 z7 T0
    have k10 : wc.cell? ⟨f, 10, none⟩ = some (.int .i64 fail) := HT.out.cell 10
    go_wp2_with fail
    go_ret
    exact ⟨rfl, HT.out⟩

set_option maxRecDepth 100000 in
set_option maxHeartbeats 4000000 in
theorem operate_off (f b : Nat) (fv : Value) (limit used lost ops fuse fault fail : Int) (sy ch : Value) (w : World) (h : w.heap[f]? = some (.cells (fsCells limit (.map (some b)) sy ch used lost false ops fuse fault fail) 57 (0, 0))) :
    Calls Try.prog 36 #[.pointer (some ⟨f, 0, none⟩), .bool true, fv] w fun e w' => e = .returned (.int .i64 9) ∧ w' = w := by
  have c1 : w.cell? ⟨f, 1, none⟩ = some (.map (some b)) := cell_of_row w f 1 _ 57 (0, 0) h
  have c6 : w.cell? ⟨f, 6, none⟩ = some (.bool false) := cell_of_row w f 6 _ 57 (0, 0) h
  clear h
  go_enter Try.func36, Try.ntmps36
  go_wp2_with fail
  refine (made_yes f b _ c1).mono ?_
  rintro e w1 ⟨rfl, rfl⟩
  go_wp2_with fail
  go_ret
  exact ⟨rfl, rfl⟩

set_option maxRecDepth 100000 in
set_option maxHeartbeats 4000000 in
theorem operate_arg (f b : Nat) (fv : Value) (w : World) (c1 : w.cell? ⟨f, 1, none⟩ = some (.map (some b))) :
    Calls Try.prog 36 #[.pointer (some ⟨f, 0, none⟩), .bool false, fv] w fun e w' => e = .returned (.int .i64 2) ∧ w' = w := by
  go_enter Try.func36, Try.ntmps36
  go_wp2_with fail
  refine (made_yes f b _ c1).mono ?_
  rintro e w1 ⟨rfl, rfl⟩
  go_wp2_with fail
  go_ret
  exact ⟨rfl, rfl⟩

/-- A file system that is not there, or that nobody made. -/
def NoFs (w : World) (p : Option Addr) : Prop := p = none ∨ ∃ f : Nat, p = some ⟨f, 0, none⟩ ∧ w.cell? ⟨f, 1, none⟩ = some (.map none)
theorem made_no (p : Option Addr) (w : World) (h : NoFs w p) :
    Calls Try.prog 41 #[.pointer p] w fun e w' => e = .returned (.bool false) ∧ w' = w := by
  rcases h with rfl | ⟨f, rfl, h⟩
  · exact made_nil w
  · exact made_not f w h
set_option maxRecDepth 100000 in
set_option maxHeartbeats 4000000 in
theorem operate_no (p : Option Addr) (x : Bool) (fv : Value) (w : World) (h : NoFs w p) :
    Calls Try.prog 36 #[.pointer p, .bool x, fv] w fun e w' => e = .returned (.int .i64 1) ∧ w' = w := by
  have H := hide h
  clear h
  go_enter Try.func36, Try.ntmps36
  go_wp2_with fail
  refine (made_no p _ H.out).mono ?_
  rintro e w1 ⟨rfl, rfl⟩
  go_wp2_with fail
  go_ret
  exact ⟨rfl, rfl⟩
end Go.Proofs.Ytefjljdgdoklmaa

/-
  What the laws share: copies of bytes, and how bytes are compared.
-/
namespace Go.Proofs.Ytefjljdgdoklmaa
open Go.RowKit

theorem Bytes.drewN {w : World} {v : Value} {bs : List (BitVec 8)} (h : Bytes w v bs) (m : Nat) : Bytes (w.drewN m) v bs := h
set_option maxHeartbeats 400000 in
theorem own_any (v : Value) (bs : List (BitVec 8)) (w : World) (h : Bytes w v bs) (hn : bs.length ≤ 140737488355328) :
    Calls Try.prog 34 #[v] w fun e w' => ∃ g c, e = .returned (.slice (some ⟨g, 0, none⟩) bs.length c) ∧ w.heap.size ≤ g ∧ bs.length ≤ c ∧ RowB w' g c bs ∧ Below w.heap.size w w' := by
  have hb : Below w.heap.size w (w.alloc (.cells #[] 5)) := (Below.refl _ _).alloc (Nat.le_refl _) _
  obtain ⟨g, c, w2, hr, hg, hrow, hb2, hc, _⟩ := append_bytes2 (w.alloc (.cells #[] 5)) w.heap.size (some ⟨w.heap.size, 0, none⟩) 0 0 [] rfl v bs bs.length rfl (h.below hb) (by simp)
    (.inr ⟨_, rfl, Nat.le_refl _, Nat.le_refl _, #[], heap_alloc_new w _, Nat.le_refl _, fun k hk => by simp [cellsOf] at hk⟩) (by omega)
  rw [Nat.zero_add] at hr hc
  rw [List.nil_append] at hrow
  have HR := hide hr
  have HW := hide hrow
  have HB := hide (hb.trans hb2)
  clear hr hrow hb hb2 h
  generalize hn' : bs.length = n at *
  go_enter Try.func34, Try.ntmps34
  go_wp2_with (at_builtin; refine wpList_append_run rfl _ _ 28 rfl _ _ rfl rfl _ _ (HR.out _) ?_)
  go_ret
  exact ⟨g, c, rfl, hg, hc, HW.out, HB.out⟩

set_option maxRecDepth 100000 in
set_option maxHeartbeats 1000000 in
/-- The same bytes are found the same. -/
theorem bytes_same (a a' : Option Addr) (n c c' : Nat) (bs : List (BitVec 8)) (w : World) (h : Bytes w (.slice a n c) bs) (h' : Bytes w (.slice a' n c') bs) (hn : n ≤ 1000000000) :
    Calls Try.prog 35 #[.slice a n c, .slice a' n c'] w fun e w' => e = .returned (.bool true) ∧ ∃ m, w' = w.drewN m := by
  have hl := h.len
  have H := hide h
  have H' := hide h'
  have HL := hide hl
  clear h h' hl
  go_enter Try.func35, Try.ntmps35
  go_wp2
  go_loopw [5] (fun i wr => ∃ k : Nat, i = .int .i64 (k : Nat) ∧ k ≤ n ∧ ∃ m, wr = w.drewN m) (fun i _ => n - (intOf i).toNat)
  case atStart => exact ⟨0, rfl, Nat.zero_le _, 0, rfl⟩
  case round =>
    obtain ⟨k, rfl, hk, m, rfl⟩ := hrel
    by_cases hkn : k < n
    · obtain ⟨b, off, rfl⟩ := H.out.addr (by omega)
      obtain ⟨b', off', rfl⟩ := H'.out.addr (by omega)
      have h1 := H.out.at k (by have := HL.out; omega)
      have h2 := H'.out.at k (by have := HL.out; omega)
      generalize hx : (bs.getD k 0).toNat = x at *
      clear hx
      have i1 : (k : Int) < (n : Int) := by omega
      have i0 : (0 : Int) ≤ (k : Int) := by omega
      go_wp2_with fail
      go_quiet (fail)
      go_wp2
      go_roundw
      case rel => exact ⟨k + 1, by go_num, by omega, _, rfl⟩
      case measure => simp [intOf]; omega
    · obtain rfl : k = n := by omega
      go_wp2
      go_ret
      exact ⟨rfl, m, rfl⟩


end Go.Proofs.Ytefjljdgdoklmaa
