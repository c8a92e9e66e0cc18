import Derived.Test.YtefjljdgdoklmaaRows
import Derived.WalkKit
import Derived.WalkSpells
import Derived.WalkLawsBesides
import Derived.Deep.AppendSrc
import Derived.Laws.AppendOwn
import Derived.Laws.MakeOwn
import Derived.Laws.Cover3
import Derived.Deep.Cut
import Derived.Deep.CutRange
import Derived.Deep.RegionHeldLaw
import Derived.BigQuiet
import Derived.Handy
import Derived.ProofKit
import Derived.OpenShut
import Derived.Deep.DeepHandedRow
import Derived.ChangeOld
/-
  What the walks of this seat share: bytes, rows of one's own, what append answers.
-/
namespace Go.Proofs.Ytefjljdgdoklmaa
open Go.RowKit

theorem hide {p : Prop} (h : p) : Hid p := h
theorem then_below {B : Nat} {w w1 w2 : World} (h : Below B w w1) (k : Below w1.heap.size w1 w2) (hB : B ≤ w.heap.size) : Below B w w2 := h.trans (k.mono (Nat.le_trans hB h.size))
theorem lt_of_heap {w : World} {g : Nat} {o : Obj} (h : w.heap[g]? = some o) : g < w.heap.size := by
  rcases Nat.lt_or_ge g w.heap.size with l | l
  · exact l
  · rw [Array.getElem?_eq_none l] at h; cases h
theorem info5 : Try.prog.info? 5 = some Try.t5 := by kernel_rfl

/-- The bytes of a slice. -/
def Bytes (w : World) (v : Value) (bs : List (BitVec 8)) : Prop :=
  ∃ (a : Option Addr) (c : Nat), v = .slice a bs.length c ∧ ∀ k, k < bs.length → ∃ b off, a = some ⟨b, off, none⟩ ∧ w.cell? ⟨b, off + k, none⟩ = some (.int .u8 ((bs.getD k 0).toNat : Int))
theorem Bytes.below {w w' : World} {v : Value} {bs : List (BitVec 8)} (h : Bytes w v bs) (hb : Below w.heap.size w w') : Bytes w' v bs := by
  obtain ⟨a, c, hv, hc⟩ := h
  refine ⟨a, c, hv, fun k hk => ?_⟩
  obtain ⟨b, off, ha, hcell⟩ := hc k hk
  refine ⟨b, off, ha, ?_⟩
  rw [hb.cell (p := ⟨b, off + k, none⟩) (block_lt_of_cell hcell), hcell]
theorem Bytes.empty (w : World) : Bytes w (.slice none 0 0) [] := ⟨_, _, rfl, fun k hk => by simp at hk⟩
theorem Bytes.at {w : World} {b off n c : Nat} {bs : List (BitVec 8)} (h : Bytes w (.slice (some ⟨b, off, none⟩) n c) bs) (k : Nat) (hk : k < bs.length) : w.cell? ⟨b, off + k, none⟩ = some (.int .u8 ((bs.getD k 0).toNat : Int)) := by
  obtain ⟨a, c', hv, hc⟩ := h
  cases hv
  obtain ⟨b', off', ha, hcell⟩ := hc k hk
  cases ha
  exact hcell
theorem Bytes.len {w : World} {a : Option Addr} {n c : Nat} {bs : List (BitVec 8)} (h : Bytes w (.slice a n c) bs) : n = bs.length := by
  obtain ⟨a', c', hv, hc⟩ := h
  cases hv
  rfl
theorem Bytes.addr {w : World} {a : Option Addr} {n c : Nat} {bs : List (BitVec 8)} (h : Bytes w (.slice a n c) bs) (h0 : 0 < n) : ∃ b off, a = some ⟨b, off, none⟩ := by
  obtain ⟨a', c', hv, hc⟩ := h
  cases hv
  obtain ⟨b, off, ha, _⟩ := hc 0 h0
  exact ⟨b, off, ha⟩
/-- A part of bytes. -/
theorem Bytes.part {w : World} {b off n c : Nat} {bs : List (BitVec 8)} (h : Bytes w (.slice (some ⟨b, off, none⟩) n c) bs) (i m c' : Nat) (hm : i + m ≤ bs.length) : Bytes w (.slice (some ⟨b, off + i, none⟩) m c') ((bs.drop i).take m) := by
  have hl : ((bs.drop i).take m).length = m := by rw [List.length_take, List.length_drop]; omega
  refine ⟨_, c', by rw [hl], fun k hk => ⟨b, off + i, rfl, ?_⟩⟩
  rw [hl] at hk
  have := h.at (i + k) (by omega)
  rw [show off + i + k = off + (i + k) by omega, this]
  congr 2
  simp [List.getD, hk]
theorem Bytes.nothing {w : World} (a : Option Addr) (c : Nat) : Bytes w (.slice a 0 c) [] := ⟨a, c, rfl, fun k hk => by simp at hk⟩


/-- The cells of bytes. -/
def cellsOf (bs : List (BitVec 8)) : List Value := bs.map fun b => .int .u8 (b.toNat : Int)

theorem heap_keep {w w' : World} (h : Below w.heap.size w w') {g : Nat} {o : Obj} (e : w.heap[g]? = some o) : w'.heap[g]? = some o := by
  rw [h.block g, e]
  rcases Nat.lt_or_ge g w.heap.size with l | l
  · exact l
  · rw [Array.getElem?_eq_none l] at e; cases e

section
variable {P : Program}
/-- An append whose outcome is known. -/
theorem wpList_append_run {ops : Array Oper} {rest : List Oper} {o : Oper} {a : Act} {w : World} {Q : Exit → Act → World → Prop} (hgd : o.guard = none) (s x : Operand) (t : TypeId)
    (ho : o.op = .call { callee := .builtin .append, args := #[s, x], argTypes := #[t, t] }) (vs vx : Value) (hs : a.eval s = vs) (hx : a.eval x = vx) (v : Value) (w' : World)
    (hr : (Builtin.append_ #[t, t] o.type #[vs, vx]).run P w = .ok v w') (h : wpList P ops Q rest (a.put o.dst v) w') : wpList P ops Q (o :: rest) a w :=
  wpList_plain hgd fun K hK => by
    unfold Oper.wp execOp
    simp only [ho, resolve, invoke, builtin, Sem.run_bind, Sem.run_pure, Result.andThen_ok, List.map_toArray, List.map_cons, List.map_nil, hs, hx, hr]
    exact hK _ _ h

theorem heap_setCells (g : Nat) (t : TypeId) : ∀ (vs : List Value) (o : Nat) (w : World) (cs : Array Value), w.heap[g]? = some (.cells cs t (0, 0)) →
    ∃ cs', (w.setCells g o vs).heap[g]? = some (.cells cs' t (0, 0)) ∧ cs'.size = cs.size ∧ ∀ k, k < cs.size → cs'[k]? = if o ≤ k ∧ k < o + vs.length then vs[k - o]? else cs[k]?
  | [], o, w, cs, h => ⟨cs, h, rfl, fun k _ => by rw [if_neg (by simp)]⟩
  | v :: r, o, w, cs, h => by
    obtain ⟨cs', h1, h2, h3⟩ := heap_setCells g t r (o + 1) (w.setCell ⟨g, o, none⟩ v) _ (heap_setCell_same w g o cs t v h)
    refine ⟨cs', h1, by rw [h2]; simp, fun k hk => ?_⟩
    rw [h3 k (by simpa using hk), Array.getElem?_setIfInBounds]
    by_cases e : k = o
    · subst e
      rw [if_neg (by omega), if_pos rfl, if_pos hk, if_pos (by simp), Nat.sub_self]
      rfl
    · by_cases h2 : o + 1 ≤ k ∧ k < o + 1 + r.length
      · rw [if_pos h2, if_pos (by simp; omega), show k - o = (k - (o + 1)) + 1 by omega, List.getElem?_cons_succ]
      · rw [if_neg h2, if_neg (fun x => e x.symm), if_neg (by simp; omega)]
theorem below_cells {B g : Nat} (hg : B ≤ g) : ∀ (vs : List Value) (o : Nat) {a w : World}, Below B a w → Below B a (w.setCells g o vs)
  | [], _, _, _, h => h
  | v :: r, o, _, _, h => below_cells hg r (o + 1) (h.setCell (by exact hg) v)

/-- A row of one's own: its first cells are told, and there is room up to its end. -/
def RowC (w : World) (g : Nat) (e : TypeId) (room : Nat) (cells : List Value) : Prop :=
  ∃ cs : Array Value, w.heap[g]? = some (.cells cs e (0, 0)) ∧ room ≤ cs.size ∧ ∀ k, k < cells.length → cs[k]? = cells[k]?
theorem RowC.below {w w' : World} {g e room : Nat} {cells : List Value} (h : RowC w g e room cells) (hb : Below w.heap.size w w') : RowC w' g e room cells := by
  obtain ⟨cs, h1, h2, h3⟩ := h
  exact ⟨cs, heap_keep hb h1, h2, h3⟩
theorem RowC.block {w w' : World} {g e room B : Nat} {cells : List Value} (h : RowC w g e room cells) (hb : Below B w w') (hg : g < B) : RowC w' g e room cells := by
  obtain ⟨cs, h1, h2, h3⟩ := h
  exact ⟨cs, (hb.block g hg).trans h1, h2, h3⟩

end
theorem sz5 : Try.t5.size = 1 := by kernel_rfl
theorem bytes5 : Try.t5.bytes = 1 := by kernel_rfl
theorem zero5 : Try.t5.zero = some (.int .u8 0) := by kernel_rfl

/-- What an append of those bytes yields. -/
theorem src_of_bytes {w : World} {v : Value} {bs : List (BitVec 8)} (h : Bytes w v bs) : Src Try.prog Try.t5.size 28 v bs.length (cellsOf bs) w := by
  obtain ⟨a, c, rfl, h⟩ := h
  cases a with
  | none =>
    have hz : bs.length = 0 := by
      rcases Nat.eq_zero_or_pos bs.length with h0 | h0
      · exact h0
      · obtain ⟨_, _, ha, _⟩ := h 0 h0; cases ha
    obtain rfl : bs = [] := by simpa using hz
    exact Src.ofNil w Try.underlying28 c
  | some ad =>
    refine Src.ofSlice w Try.underlying28 ad _ c _ (by simp [cellsOf, sz5]) (fun j u hu => ?_) (fun u hu => ?_)
    · have hj : j < bs.length := by
        rcases Nat.lt_or_ge j bs.length with hl | hl
        · exact hl
        · rw [List.getElem?_eq_none (by simpa [cellsOf] using hl)] at hu; cases hu
      obtain ⟨b, off, ha, hc⟩ := h j hj
      obtain rfl : ad = ⟨b, off, none⟩ := by simpa using ha
      rw [Go.WideShapes.add_plain, hc]
      simpa [cellsOf, hj] using hu
    · obtain ⟨b, _, rfl⟩ := List.mem_map.1 hu
      rfl

/-- Bytes at the head of a row of their own, with room for c. -/
def RowB (w : World) (g c : Nat) (bs : List (BitVec 8)) : Prop := RowC w g 5 c (cellsOf bs)
theorem RowB.bytes {w : World} {g c c' n : Nat} {bs : List (BitVec 8)} (h : RowB w g c bs) (hn : n = bs.length) : Bytes w (.slice (some ⟨g, 0, none⟩) n c') bs := by
  subst hn
  obtain ⟨cs, h1, _, h2⟩ := h
  refine ⟨_, c', rfl, fun k hk => ⟨g, 0, rfl, ?_⟩⟩
  rw [Nat.zero_add, cell_of_row w g k cs 5 (0, 0) h1, h2 k (by simpa [cellsOf] using hk)]
  simp [cellsOf, hk]
theorem cellsOf_append (a b : List (BitVec 8)) : cellsOf (a ++ b) = cellsOf a ++ cellsOf b := by simp [cellsOf]
theorem cellsOf_length (a : List (BitVec 8)) : (cellsOf a).length = a.length := by simp [cellsOf]

theorem heap_setCells_ne (g : Nat) : ∀ (vs : List Value) (o : Nat) (w : World) (b : Nat), b ≠ g → (w.setCells g o vs).heap[b]? = w.heap[b]?
  | [], _, _, _, _ => rfl
  | v :: r, o, w, b, h => by
    rw [show w.setCells g o (v :: r) = (w.setCell ⟨g, o, none⟩ v).setCells g (o + 1) r from rfl, heap_setCells_ne g r (o + 1) _ b h, heap_setCell_other _ _ _ _ (by exact h)]

section
variable {P : Program}
/-- What append answers: behind 'old', 'news' (n items), in a row of one's own. -/
theorem append_gen2 (w : World) (B : Nat) (t e : TypeId) (i : TypeInfo) (z : Value) (ht : P.underlying t = some (.slice e)) (hi : P.info? e = some i) (hz : i.zero = some z) (hzc : z.cells.size = i.size)
    (base : Option Addr) (sLen sCap : Nat) (old : List Value) (hold : old.length = sLen * i.size) (x : Value) (n : Nat) (news : List Value) (hs : Src P i.size t x n news w) (hB : B ≤ w.heap.size)
    (hbase : (base = none ∧ sLen = 0 ∧ sCap = 0 ∧ 0 < n) ∨ ∃ g, base = some ⟨g, 0, none⟩ ∧ B ≤ g ∧ sLen ≤ sCap ∧ RowC w g e (sCap * i.size) old) (hfit : (sLen + n) * i.bytes ≤ 140737488355328) (hsm : sLen + n ≤ 140737488355328) :
    ∃ g c w', (∀ ty, (Builtin.append_ #[t, t] ty #[.slice base sLen sCap, x]).run P w = .ok (.slice (some ⟨g, 0, none⟩) (sLen + n) c) w') ∧ B ≤ g ∧ RowC w' g e (c * i.size) (old ++ news) ∧ Below B w w' ∧ sLen + n ≤ c ∧ (sLen + n ≤ sCap → base = some ⟨g, 0, none⟩ ∧ c = sCap) ∧ (sCap < sLen + n → g = w.heap.size) ∧ (∀ b, b < w.heap.size → base ≠ some ⟨b, 0, none⟩ → w'.heap[b]? = w.heap[b]?) := by
  by_cases hroom : sLen + n ≤ sCap
  · rcases hbase with ⟨_, _, _, _⟩ | ⟨g, rfl, hg, hlc, cs, h1, h2, h3⟩
    · omega
    · have hsz : (sLen + n) * i.size ≤ sCap * i.size := Nat.mul_le_mul_right _ hroom
      have hnl := hs.newsLen
      rw [Nat.add_mul] at hsz
      have hr := fun ty => run_append_room_src (P := P) w t t ty e i ht hi g 0 sLen sCap x n news hs hroom
        (fun j hj => by rw [cell_of_row w g _ cs e (0, 0) h1, Nat.zero_add, Array.getElem?_eq_getElem (by omega)]; rfl)
        (fun j hj => frozen_of_row w g _ cs e h1)
      rw [Nat.zero_add] at hr
      obtain ⟨cs', k1, k2, k3⟩ := heap_setCells g e news (sLen * i.size) w cs h1
      refine ⟨g, sCap, _, hr, hg, ⟨cs', k1, by omega, fun k hk => ?_⟩, below_cells hg _ _ (Below.refl _ _), hroom, fun _ => ⟨rfl, rfl⟩, fun h => by omega, fun b _ hb => heap_setCells_ne g _ _ w b (fun e => hb (by rw [e]))⟩
      rw [List.length_append] at hk
      rw [k3 k (by omega), List.getElem?_append]
      by_cases hk2 : k < old.length
      · rw [if_neg (by omega), if_pos hk2, h3 k hk2]
      · rw [if_pos (by omega), if_neg hk2, hold]
  · have hcap : sCap < sLen + n := by omega
    have hold' : (Builtin.firstCells i.size sLen (.slice base sLen sCap)).run P w.drew = .ok old.toArray w.drew := by
      rcases hbase with ⟨rfl, rfl, rfl, _⟩ | ⟨g, rfl, hg, hlc, cs, h1, h2, h3⟩
      · obtain rfl : old = [] := by simpa using hold
        rfl
      · have := Nat.mul_le_mul_right i.size hlc
        refine run_firstCells_some (P := P) w.drew _ _ _ _ _ old hold (fun j v hv => ?_)
        have hj : j < old.length := by
          rcases Nat.lt_or_ge j old.length with h | h
          · exact h
          · rw [List.getElem?_eq_none h] at hv; cases hv
        rw [Go.WideShapes.add_plain, Nat.zero_add, cell_of_row w.drew g j cs e (0, 0) h1, h3 j hj, hv]
    have hr := fun ty => run_append_grow_src (P := P) w t t ty e i z ht hi hz base sLen sCap old hold' x n news hs hcap (by omega) (growslice_fits hcap hfit)
    have hge := grownCap_ge w (sLen + n) sCap e
    generalize grownCap w (sLen + n) sCap e = cp at *
    have hnl := hs.newsLen
    refine ⟨w.heap.size, cp, _, hr, hB, ⟨_, heap_alloc_new w.drew _, ?_, fun k hk => ?_⟩, (Below.refl _ _).drew.alloc hB _, hge, fun h => by omega, fun _ => rfl, fun b hb _ => heap_alloc_old w.drew _ hb⟩
    · rw [Array.size_append, size_zeroCells, List.size_toArray, List.length_append, hold, hnl, hzc, ← Nat.add_mul, ← Nat.add_mul]
      exact Nat.mul_le_mul_right _ (by omega)
    · rw [Array.getElem?_append_left (by simpa using hk)]
      simp
end
/-- Append of bytes. -/
theorem append_bytes2 (w : World) (B : Nat) (base : Option Addr) (sLen sCap : Nat) (bs : List (BitVec 8)) (hl : sLen = bs.length) (x : Value) (news : List (BitVec 8)) (n : Nat) (hn : n = news.length) (hx : Bytes w x news) (hB : B ≤ w.heap.size)
    (hbase : (base = none ∧ sLen = 0 ∧ sCap = 0 ∧ 0 < n) ∨ ∃ g, base = some ⟨g, 0, none⟩ ∧ B ≤ g ∧ sLen ≤ sCap ∧ RowB w g sCap bs) (hsm : sLen + n ≤ 140737488355328) :
    ∃ g c w', (∀ ty, (Builtin.append_ #[28, 28] ty #[.slice base sLen sCap, x]).run Try.prog w = .ok (.slice (some ⟨g, 0, none⟩) (sLen + n) c) w') ∧ B ≤ g ∧ RowB w' g c (bs ++ news) ∧ Below B w w' ∧ sLen + n ≤ c ∧ (sLen + n ≤ sCap → base = some ⟨g, 0, none⟩ ∧ c = sCap) ∧ (sCap < sLen + n → g = w.heap.size) ∧ (∀ b, b < w.heap.size → base ≠ some ⟨b, 0, none⟩ → w'.heap[b]? = w.heap[b]?) := by
  subst hn
  have := append_gen2 (P := Try.prog) w B 28 5 Try.t5 (.int .u8 0) Try.underlying28 info5 zero5 rfl base sLen sCap (cellsOf bs) (by rw [cellsOf_length, sz5, hl, Nat.mul_one]) x news.length (cellsOf news) (src_of_bytes hx) hB (by rw [sz5, Nat.mul_one]; exact hbase) (by rw [bytes5]; omega) hsm
  rw [sz5] at this
  simp only [Nat.mul_one, ← cellsOf_append] at this
  exact this

end Go.Proofs.Ytefjljdgdoklmaa

/-
  What the rows of this seat ask behind a call that answered true and turned nothing.
-/
namespace Go.Proofs.Ytefjljdgdoklmaa
open Go.ChangeShapes Go.WideShapes Go.ChangeAt Go.RowKit

theorem own : ownKnob Try.prog.godebug = none := by kernel_rfl
theorem laidOut : laidOutB Try.prog = true := by kernel_rfl

/-- The arguments read behind the call as they did, where nothing that was there has turned. -/
theorem below_trodAll {P : Program} (hl : laidOutB P = true) {H : Type} {enc : TypeId × Value → H} {W W' : World} (hb : Below W.heap.size W W') (ts : List TypeId) :
    ∀ (vs : List Value) (ds : List (DataW H)) (ps : List MemPlace), (ts.all fun t => P.readableRec t && decide (t < P.types.size)) = true →
      DataW.TrodAll enc P W 0 (fun _ => true) true ts vs ds ps → DataW.TrodAll enc P W' 0 (fun b => decide (b < W.heap.size)) true ts vs ds ps := by
  induction ts with
  | nil =>
    intro vs ds ps _ h
    obtain ⟨rfl, rfl, rfl⟩ := trodAll_nil h
    exact trodAll_mk0
  | cons t ts ih =>
    intro vs ds ps ht h
    have hlt := h.lt
    simp only [List.all_cons, Bool.and_eq_true, decide_eq_true_eq] at ht
    obtain ⟨v0, vs0, d0, ds0, p0, q0, rfl, rfl, rfl, h0, r0⟩ := trodAll_cons h
    exact trodAll_cons_mk (Below.trod hl ht.1.1 ht.1.2 h0 hb (fun x hx => hlt x (by simp [hx]))) (ih vs0 ds0 q0 ht.2 r0)

/-- A law that has answered true, and has turned nothing that was there. -/
theorem law_post {H : Type} {enc : TypeId × Value → H} {f : Func} {s : ChangeSpec} {W W' : World} {args : Array Value} {ds gs : List (DataW H)} {before : List MemPlace}
    (hW : DataW.Whole enc Try.prog f.params.toList s.vars false W args.toList ds gs before) (hb : Below W.heap.size W W')
    (hp : (f.params.toList.all fun t => Try.prog.readableRec t && decide (t < Try.prog.types.size)) = true) (hv : s.vars = []) (ht : f.resultTypes = #[4])
    (hr : (s.fn H (ds ++ gs)).results = [.lit (.bool true)]) (ha : (s.fn H (ds ++ gs)).args = ds) (hg : (s.fn H (ds ++ gs)).vars = []) :
    s.post enc Try.prog f false true false false W args (.bool true) W' := by
  have hW' := hW
  obtain ⟨p, q, hA, hV, rfl, hfz, hnd⟩ := hW
  refine ⟨ds, gs, p ++ q, [], p, [], hW', ?_, ?_, ?_, hb.frame _, fun h => by cases h⟩
  · rw [hr, ht]
    exact trodAll_cons_mk (shut_bool Try.underlying4 _) trodAll_mk0
  · rw [ha]
    exact below_trodAll laidOut hb _ _ _ _ hp hA
  · rw [hg, hv]
    rfl

theorem text_len {H : Type} {enc : TypeId × Value → H} {P : Program} {W : World} {fuel : Nat} {s : ByteArray} {x : DataW H × List MemPlace} (ht : P.underlying 9 = some .string) (h : DataW.trod enc P W 0 (fun _ => true) true fuel 9 [.string s] = some x) : s.size ≤ maxLen := by
  obtain ⟨s', e, _, hw⟩ := DataW.trod_string ht h
  obtain rfl : s = s' := by simpa using e
  exact hw
set_option maxRecDepth 100000 in
/-- A text that came in. -/
theorem open_text {H : Type} {enc : TypeId × Value → H} {W : World} {r : Reach} {b0 : Nat} {v : Value} {d : DataW H} {p : List MemPlace} (hval : Value.okWide Try.prog W r b0 9 v) (h : DataW.Trod enc Try.prog W 0 (fun _ => true) true 9 v d p) :
    ∃ s : ByteArray, v = .string s ∧ s.size ≤ maxLen := by
  obtain ⟨s, rfl⟩ := okWide_string Try.underlying9 hval
  obtain ⟨fuel, h⟩ := h
  exact ⟨s, rfl, text_len Try.underlying9 h⟩
end Go.Proofs.Ytefjljdgdoklmaa

/-
  A call of a file system that came in, opened.
-/
namespace Go.Proofs.Ytefjljdgdoklmaa
open Go.ChangeShapes Go.WideShapes Go.ChangeAt Go.RowKit

theorem cells49 : Try.prog.cellsOf 49 = 8 := by kernel_rfl
theorem cells3 : Try.prog.cellsOf 3 = 1 := by kernel_rfl
theorem cells9 : Try.prog.cellsOf 9 = 1 := by kernel_rfl
theorem cells28 : Try.prog.cellsOf 28 = 1 := by kernel_rfl
theorem cells23 : Try.prog.cellsOf 23 = 1 := by kernel_rfl
theorem cells47 : Try.prog.cellsOf 47 = 1 := by kernel_rfl
theorem slice_cell {H : Type} {enc : TypeId × Value → H} {W : World} {n t e : Nat} {v : Value} {x : DataW H × List MemPlace} (ht : Try.prog.underlying t = some (.slice e)) (h : DataW.trod enc Try.prog W 0 (fun _ => true) true n t [v] = some x) :
    ∃ (a : Option Addr) (m c : Nat), v = .slice a m c := by
  rcases DataW.trod_slice ht h with ⟨hv, _⟩ | ⟨a, len, cap, _, _, _, _, hv, _⟩
  · exact ⟨none, 0, 0, by simpa using hv⟩
  · exact ⟨some a, len, cap, by simpa using hv⟩
theorem int_cell {H : Type} {enc : TypeId × Value → H} {W : World} {n t : Nat} {v : Value} {x : DataW H × List MemPlace} (ht : Try.prog.underlying t = some (.int .i64)) (h : DataW.trod enc Try.prog W 0 (fun _ => true) true n t [v] = some x) :
    ∃ z : Int, v = .int .i64 z := by
  obtain ⟨z, hz, _⟩ := DataW.trod_int ht h
  exact ⟨z, by simpa using hz⟩
theorem text_cell {H : Type} {enc : TypeId × Value → H} {W : World} {n t : Nat} {v : Value} {x : DataW H × List MemPlace} (ht : Try.prog.underlying t = some .string) (h : DataW.trod enc Try.prog W 0 (fun _ => true) true n t [v] = some x) :
    ∃ s : ByteArray, v = .string s := by
  obtain ⟨z, hz, _⟩ := DataW.trod_string ht h
  exact ⟨z, by simpa using hz⟩

set_option maxRecDepth 100000 in
theorem open_act {H : Type} {enc : TypeId × Value → H} {W : World} {r : Reach} {b0 : Nat} {v : Value} {d : DataW H} {p : List MemPlace} (hval : Value.okWide Try.prog W r b0 49 v) (h : DataW.Trod enc Try.prog W 0 (fun _ => true) true 49 v d p) :
    ∃ (kind N M E : Int) (A C : ByteArray) (ba ka : Option Addr) (bn bc kn kc : Nat), v = .agg #[.int .i64 kind, .string A, .string C, .slice ba bn bc, .int .i64 N, .int .i64 M, .int .i64 E, .slice ka kn kc] := by
  obtain ⟨fuel, h⟩ := h
  obtain ⟨cs, rfl, h2⟩ := okWide_struct Try.underlying49 hval
  rw [cells49] at h2
  obtain ⟨l⟩ := cs
  match l, h2 with
  | [c0, c1, c2, c3, c4, c5, c6, c7], _ =>
    have h' : DataW.trod enc Try.prog W 0 (fun _ => true) true fuel 49 [c0, c1, c2, c3, c4, c5, c6, c7] = some (d, p) := h
    obtain ⟨xs, n, _, _, _, hlen, hf⟩ := DataW.trod_struct Try.underlying49 h'
    match xs, hlen with
    | [y0, y1, y2, y3, y4, y5, y6, y7], _ =>
      have t0 : DataW.trod enc Try.prog W 0 (fun _ => true) true n 3 [c0] = some y0 := by simpa [cells3] using hf 0 _ rfl
      have t1 : DataW.trod enc Try.prog W 0 (fun _ => true) true n 9 [c1] = some y1 := by simpa [cells9] using hf 1 _ rfl
      have t2 : DataW.trod enc Try.prog W 0 (fun _ => true) true n 9 [c2] = some y2 := by simpa [cells9] using hf 2 _ rfl
      have t3 : DataW.trod enc Try.prog W 0 (fun _ => true) true n 28 [c3] = some y3 := by simpa [cells28] using hf 3 _ rfl
      have t4 : DataW.trod enc Try.prog W 0 (fun _ => true) true n 3 [c4] = some y4 := by simpa [cells3] using hf 4 _ rfl
      have t5 : DataW.trod enc Try.prog W 0 (fun _ => true) true n 3 [c5] = some y5 := by simpa [cells3] using hf 5 _ rfl
      have t6 : DataW.trod enc Try.prog W 0 (fun _ => true) true n 23 [c6] = some y6 := by simpa [cells23] using hf 6 _ rfl
      have t7 : DataW.trod enc Try.prog W 0 (fun _ => true) true n 47 [c7] = some y7 := by simpa [cells47] using hf 7 _ rfl
      obtain ⟨kind, rfl⟩ := int_cell Try.underlying3 t0
      obtain ⟨A, rfl⟩ := text_cell Try.underlying9 t1
      obtain ⟨C, rfl⟩ := text_cell Try.underlying9 t2
      obtain ⟨ba, bn, bc, rfl⟩ := slice_cell Try.underlying28 t3
      obtain ⟨N, rfl⟩ := int_cell Try.underlying3 t4
      obtain ⟨M, rfl⟩ := int_cell Try.underlying3 t5
      obtain ⟨E, rfl⟩ := int_cell Try.underlying23 t6
      obtain ⟨ka, kn, kc, rfl⟩ := slice_cell Try.underlying47 t7
      exact ⟨kind, N, M, E, A, C, ba, ka, bn, bc, kn, kc, rfl⟩
end Go.Proofs.Ytefjljdgdoklmaa

/-
  Bytes and numbers that came in, opened.
-/
namespace Go.Proofs.Ytefjljdgdoklmaa
open Go.ChangeShapes Go.WideShapes Go.ChangeAt Go.RowKit

theorem cells5 : Try.prog.cellsOf 5 = 1 := by kernel_rfl
theorem Bytes.none (w : World) : Bytes w (.slice Option.none 0 0) [] := ⟨_, 0, rfl, fun k hk => by simp at hk⟩
set_option maxRecDepth 100000 in
theorem open_cell {H : Type} {enc : TypeId × Value → H} {W : World} {n : Nat} {v : Value} {x : DataW H × List MemPlace} (h : DataW.trod enc Try.prog W 0 (fun _ => true) true n 28 [v] = some x) :
    ∃ (a : Option Addr) (m c : Nat) (bs : List (BitVec 8)), v = .slice a m c ∧ Bytes W v bs ∧ m ≤ c := by
  rcases open_ints Try.underlying28 Try.underlying5 cells5 h with ⟨hv, _⟩ | ⟨a, len, cap, zs, hv, _, hlc, hcap, hlen, _, hcell, hwf⟩
  · obtain rfl : v = .slice none 0 0 := by simpa using hv
    exact ⟨none, 0, 0, [], rfl, Bytes.none W, Nat.le_refl _⟩
  · obtain rfl : v = .slice (some a) len cap := by simpa using hv
    have hz : zs.length = cap := by simpa using hlen
    refine ⟨some a, len, cap, (zs.take len).map fun z => BitVec.ofNat 8 z.toNat, rfl, ⟨some a, cap, by simp; omega, fun k hk => ?_⟩, hlc⟩
    have hkl : k < len := by simp at hk; omega
    obtain ⟨b, off, rfl, hc⟩ := ints_at hcell (by omega)
    refine ⟨b, off, rfl, ?_⟩
    rw [hc k (by omega)]
    have hk' : k < zs.length := by omega
    have hb := bounds_u8 (hwf zs[k] (List.getElem_mem hk'))
    congr 2
    simp [List.getD, hkl, hk']
    omega

set_option maxRecDepth 100000 in
theorem open_room {H : Type} {enc : TypeId × Value → H} {W : World} {r : Reach} {b0 : Nat} {v : Value} {d : DataW H} {p : List MemPlace} (hval : Value.okWide Try.prog W r b0 28 v) (h : DataW.Trod enc Try.prog W 0 (fun _ => true) true 28 v d p) :
    ∃ (a : Option Addr) (m c : Nat) (bs : List (BitVec 8)), v = .slice a m c ∧ Bytes W v bs ∧ m ≤ c := by
  obtain ⟨fuel, h⟩ := h
  obtain ⟨a0, len0, cap0, rfl⟩ := okWide_slice Try.underlying28 hval
  exact open_cell h

set_option maxRecDepth 100000 in
theorem open_i64 {H : Type} {enc : TypeId × Value → H} {W : World} {r : Reach} {b0 : Nat} {v : Value} {d : DataW H} {p : List MemPlace} (hval : Value.okWide Try.prog W r b0 3 v) (h : DataW.Trod enc Try.prog W 0 (fun _ => true) true 3 v d p) :
    ∃ n : Int, v = .int .i64 n ∧ -9223372036854775808 ≤ n ∧ n ≤ 9223372036854775807 := by
  obtain ⟨n, rfl, _, _, hw⟩ := open_int Try.underlying3 hval h
  have hb := bounds_i64 hw
  exact ⟨n, rfl, by omega, by omega⟩

end Go.Proofs.Ytefjljdgdoklmaa
