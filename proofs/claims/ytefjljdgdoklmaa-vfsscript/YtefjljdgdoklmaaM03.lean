import Derived.Test.YtefjljdgdoklmaaM02
import Derived.Maps.OwnSet
import Derived.Maps.Ext
import Derived.Deep.RegionLaw
/-
  The directory: a map from names to files, its changes, and what a call leaves alone.
-/
namespace Go.Proofs.Ytefjljdgdoklmaa
open Go.RowKit Go.Maps

/-- Of the blocks that were there only some may have turned. -/
structure Turns (S : Nat → Prop) (w w' : World) : Prop where
  os : w'.os = w.os
  tape : w'.tape = w.tape
  output : w'.output = w.output
  size : w.heap.size ≤ w'.heap.size
  block : ∀ k, k < w.heap.size → ¬ S k → w'.heap[k]? = w.heap[k]?
theorem Turns.refl (S : Nat → Prop) (w : World) : Turns S w w := ⟨rfl, rfl, rfl, Nat.le_refl _, fun _ _ _ => rfl⟩
theorem Turns.trans {S : Nat → Prop} {a b c : World} (h : Turns S a b) (k : Turns S b c) : Turns S a c :=
  ⟨k.os.trans h.os, k.tape.trans h.tape, k.output.trans h.output, Nat.le_trans h.size k.size, fun i hi hs => (k.block i (Nat.lt_of_lt_of_le hi h.size) hs).trans (h.block i hi hs)⟩
theorem Turns.mono {S S' : Nat → Prop} {a b : World} (h : Turns S a b) (hs : ∀ k, k < a.heap.size → S k → S' k) : Turns S' a b :=
  ⟨h.os, h.tape, h.output, h.size, fun i hi hn => h.block i hi fun x => hn (hs i hi x)⟩
/-- Two steps, the second of which may also turn what the first one made. -/
theorem Turns.andThen {S S' : Nat → Prop} {a b c : World} (h : Turns S a b) (k : Turns S' b c) (hs : ∀ k, k < a.heap.size → S' k → S k) : Turns S a c :=
  ⟨k.os.trans h.os, k.tape.trans h.tape, k.output.trans h.output, Nat.le_trans h.size k.size, fun i hi hn => (k.block i (Nat.lt_of_lt_of_le hi h.size) fun x => hn (hs i hi x)).trans (h.block i hi hn)⟩
theorem Turns.alloc {S : Nat → Prop} {a w : World} (h : Turns S a w) (o : Obj) : Turns S a (w.alloc o) :=
  h.trans ⟨rfl, rfl, rfl, by simp, fun k hk _ => Below.heap_alloc w o k hk⟩
theorem Turns.drew {S : Nat → Prop} {a w : World} (h : Turns S a w) : Turns S a w.drew := ⟨h.os, h.tape, h.output, h.size, h.block⟩
theorem Turns.drewN {S : Nat → Prop} {a w : World} (h : Turns S a w) (n : Nat) : Turns S a (w.drewN n) := h.trans ⟨rfl, rfl, rfl, Nat.le_refl _, fun _ _ _ => rfl⟩
theorem Turns.below {S : Nat → Prop} {a w : World} (h : Turns S a w) {B : Nat} (hB : B ≤ a.heap.size) (hs : ∀ k, S k → B ≤ k) : Below B a w :=
  ⟨h.os, h.tape, h.output, h.size, fun k hk => h.block k (Nat.lt_of_lt_of_le hk hB) fun x => by have := hs k x; omega⟩
theorem Turns.of_below {w w' : World} (h : Below w.heap.size w w') (S : Nat → Prop) : Turns S w w' := ⟨h.os, h.tape, h.output, h.size, fun k hk _ => h.block k hk⟩
theorem Turns.of_grown {w w' : World} {r : Option Nat} (h : w.grownBy w' r) : Turns (fun k => r = some k) w w' := ⟨h.os, h.tape, h.output, h.size, fun k hk hn => h.block k hk fun e => hn e.symm⟩
theorem Turns.of_tick {w w' : World} {f : Nat} {t : TypeId} {cs : Array Value} (h : Tick w w' f t cs) : Turns (fun k => k = f) w w' := by
  have hb := h.2.2.2 0 (Nat.zero_le _)
  exact ⟨hb.os, hb.tape, hb.output, hb.size, fun k _ hn => h.2.2.1 k hn⟩
theorem Turns.heap {S : Nat → Prop} {a w : World} (h : Turns S a w) {k : Nat} {o : Obj} (ho : a.heap[k]? = some o) (hn : ¬ S k) : w.heap[k]? = some o := (h.block k (lt_of_heap ho) hn).trans ho
theorem Turns.cell {S : Nat → Prop} {a w : World} (h : Turns S a w) {p : Addr} {v : Value} (ho : a.cell? p = some v) (hn : ¬ S p.block) : w.cell? p = some v :=
  (World.cell?_of_block (h.block p.block (block_lt_of_cell ho) hn)).trans ho
theorem Turns.grown {a w : World} {r : Nat} (h : Turns (fun k => k = r) a w) : a.grownBy w (some r) := ⟨h.os, h.tape, h.output, h.size, fun k hk hn => h.block k hk fun e => hn (by rw [e])⟩

/-- What a pointer to a file is in a directory: its block's number. -/
def ptrR : Value → Option (DataW Unit × List MemPlace)
  | .pointer none => some (.nil, [])
  | .pointer (some ⟨g, 0, none⟩) => some (.lit (.int .i64 (g : Nat)), [])
  | _ => none
theorem ptrR_none : ptrR (.pointer none) = some (.nil, []) := rfl
theorem ptrR_some (g : Nat) : ptrR (.pointer (some ⟨g, 0, none⟩)) = some (.lit (.int .i64 (g : Nat)), []) := rfl
theorem ptrR_inv {v : Value} {d : DataW Unit} {ps : List MemPlace} (h : ptrR v = some (d, ps)) : (v = .pointer none ∧ d = .nil) ∨ ∃ g : Nat, v = .pointer (some ⟨g, 0, none⟩) ∧ d = .lit (.int .i64 (g : Nat)) := by
  unfold ptrR at h
  split at h
  · cases h; exact .inl ⟨rfl, rfl⟩
  · cases h; exact .inr ⟨_, rfl, rfl⟩
  · cases h

theorem law9 : Keyed Try.prog 9 := string_keyed Try.underlying9
theorem zero67 (w : World) : (zeroValue 67).run Try.prog w = .ok (.pointer none) w := by kernel_rfl
/-- A name as a key. -/
def key (s : ByteArray) : Lit := .string s.data.toList
theorem keyOf9 (s : ByteArray) (h : s.size ≤ maxLen) : keyOf Try.prog 9 (.string s) = some (key s) := Go.WideMaps.keyOf_string_mk Try.underlying9 h

/-- A directory in memory. -/
abbrev Dir (w : World) (b n : Nat) (D : DataW Unit) : Prop := w.ownsMap Try.prog 9 ptrR b n D
theorem Dir.keep {S : Nat → Prop} {w w' : World} {b n : Nat} {D : DataW Unit} (h : Dir w b n D) (ht : Turns S w w') (hn : ¬ S b) : Dir w' b n D := by
  obtain ⟨es, clock, hb, F, hs, hD⟩ := h
  exact ⟨es, clock, ht.heap hb hn, F, hs, hD⟩

/-- A change of the directory. -/
structure Chg where
  went : ByteArray
  became : ByteArray
  file : Option Nat
def ptrOf : Option Nat → Value
  | none => .pointer none
  | some g => .pointer (some ⟨g, 0, none⟩)
def Chg.cells (c : Chg) : Array Value := #[.string c.went, .string c.became, ptrOf c.file]
def applyD (D : DataW Unit) (c : Chg) : DataW Unit :=
  match c.file with
  | none => D.del (key c.went)
  | some g => (D.del (key c.went)).put (key c.became) (.lit (.int .i64 (g : Nat)))

set_option maxRecDepth 100000 in
set_option maxHeartbeats 1000000 in
theorem apply_any (b n : Nat) (D : DataW Unit) (c : Chg) (w : World) (h : Dir w b n D) (hn : n < maxLen) (h1 : c.went.size ≤ maxLen) (h2 : c.became.size ≤ maxLen) :
    Calls Try.prog 72 #[.map (some b), .agg c.cells] w fun e w' => (∃ v, e = .returned v) ∧ Dir w' b (n + 1) (applyD D c) ∧ Turns (fun k => k = b) w w' := by
  obtain ⟨went, became, file⟩ := c
  have hbx : Turns (fun k => k = b) w (w.alloc (.cells #[.string went, .string became, ptrOf file] 72)) := (Turns.refl _ w).alloc _
  have hnew := heap_alloc_new w (.cells #[.string went, .string became, ptrOf file] 72)
  have hb := h.lt
  obtain ⟨w1, hdel, hd1, ht1⟩ := (World.ownsMap.alloc h (.cells #[.string went, .string became, ptrOf file] 72)).drop law9 Try.underlying53 (keyOf9 went h1) 0
  have k1 : Turns (fun k => k = b) (w.alloc (.cells #[.string went, .string became, ptrOf file] 72)) w1 := (Turns.of_grown ht1.grown).mono fun k _ e => by cases e; rfl
  have hnb : ¬ w.heap.size = b := by omega
  have c0 : (w.alloc (.cells #[.string went, .string became, ptrOf file] 72)).cell? ⟨w.heap.size, 0, none⟩ = some (.string went) := cell_of_row _ _ 0 _ 72 (0, 0) hnew
  have hx1 := k1.heap hnew hnb
  have c2 : w1.cell? ⟨w.heap.size, 2, none⟩ = some (ptrOf file) := cell_of_row _ _ 2 _ 72 (0, 0) hx1
  have c1 : w1.cell? ⟨w.heap.size, 1, none⟩ = some (.string became) := cell_of_row _ _ 1 _ 72 (0, 0) hx1
  have T1 := hide (hbx.trans k1)
  have HD := hide hdel
  have HD1 := hide hd1
  clear hbx hnew k1 hx1 hdel hd1 ht1 h
  cases file with
  | none =>
    simp only [ptrOf] at c0 c2 T1 HD HD1
    show Calls Try.prog 72 #[.map (some b), .agg #[.string went, .string became, .pointer none]] w _
    have hdel := HD.out
    go_enter Try.func72, Try.ntmps72
    go_wp2_with fail
    go_end0
    exact ⟨⟨_, rfl⟩, HD1.out.mono (Nat.le_succ _), T1.out⟩
  | some g =>
    simp only [ptrOf] at c0 c2 T1 HD HD1
    obtain ⟨w2, hup, hd2, ht2⟩ := HD1.out.store law9 Try.underlying53 hn (keyOf9 became h2) (ptrR_some g)
    have T2 := hide (T1.out.trans ((Turns.of_grown ht2.grown).mono fun k _ e => by cases e; rfl))
    have HD2 := hide hd2
    clear ht2 hd2
    show Calls Try.prog 72 #[.map (some b), .agg #[.string went, .string became, .pointer (some ⟨g, 0, none⟩)]] w _
    have hdel := HD.out
    go_enter Try.func72, Try.ntmps72
    go_wp2_with fail
    go_end0
    exact ⟨⟨_, rfl⟩, HD2.out, T2.out⟩
end Go.Proofs.Ytefjljdgdoklmaa

/-
  A change of the directory: it is applied, and kept behind the others.
-/
namespace Go.Proofs.Ytefjljdgdoklmaa
open Go.RowKit Go.Maps

theorem step_append_run {P : Program} {ops : Array Oper} {o : Oper} {a : Act} {w : World} {K : Act → World → Prop} {Q : Exit → Act → World → Prop} {E : Prop} (hgd : o.guard = none) (s x : Operand) (t : TypeId)
    (ho : o.op = .call { callee := .builtin .append, args := #[s, x], argTypes := #[t, t] }) (vs vx : Value) (hs : a.eval s = vs) (hx : a.eval x = vx) (v : Value) (w' : World)
    (hr : (Builtin.append_ #[t, t] o.type #[vs, vx]).run P w = .ok v w') (d : Nat) (hd : o.dst = some d) (h : K (a.put (some d) v) w') :
    if Region.wanted o (yielded ops a.tmps) = true then Oper.wp P o a w K Q else E := by
  have hw : Region.wanted o (yielded ops a.tmps) = true := by simp [Region.wanted, hgd]
  rw [if_pos hw]
  unfold Oper.wp execOp
  simp only [ho, resolve, invoke, builtin, Sem.run_bind, Sem.run_pure, Result.andThen_ok, List.map_toArray, List.map_cons, List.map_nil, hs, hx, hr]
  show K (a.put o.dst v) w'
  rw [hd]
  exact h

theorem Turns.setCell {S : Nat → Prop} {a w : World} (h : Turns S a w) {p : Addr} (hp : S p.block) (v : Value) : Turns S a (w.setCell p v) :=
  h.trans ⟨rfl, rfl, rfl, by simp, fun k _ hn => heap_setCell_other w p k v fun e => hn (by rw [e]; exact hp)⟩

/-- The cells of changes. -/
def chCells (l : List Chg) : List Value := l.flatMap fun c => [.string c.went, .string c.became, ptrOf c.file]
theorem chCells_length (l : List Chg) : (chCells l).length = l.length * 3 := by
  induction l with
  | nil => rfl
  | cons c r ih => simp only [chCells, List.flatMap_cons, List.length_append, List.length_cons, List.length_nil] at ih ⊢; omega
theorem chCells_snoc (l : List Chg) (c : Chg) : chCells (l ++ [c]) = chCells l ++ [.string c.went, .string c.became, ptrOf c.file] := by simp [chCells]
/-- The block that a slice of one's own lies in. -/
def inRow (v : Value) (k : Nat) : Prop := ∃ n c, v = .slice (some ⟨k, 0, none⟩) n c
/-- Changes in a list of one's own, or none. -/
def Chs (w : World) (v : Value) (l : List Chg) : Prop :=
  (l = [] ∧ v = .slice none 0 0) ∨ ∃ (g c n : Nat), v = .slice (some ⟨g, 0, none⟩) n c ∧ n = l.length ∧ 0 < n ∧ n ≤ c ∧ RowC w g 72 (c * 3) (chCells l)
theorem Chs.keep {S : Nat → Prop} {w w' : World} {v : Value} {l : List Chg} (h : Chs w v l) (ht : Turns S w w') (hn : ∀ k, inRow v k → ¬ S k) : Chs w' v l := by
  rcases h with h | ⟨g, c, n, h1, h2, h3, h4, cs, h5, h6, h7⟩
  · exact .inl h
  · exact .inr ⟨g, c, n, h1, h2, h3, h4, cs, ht.heap h5 (hn g ⟨n, c, h1⟩), h6, h7⟩
theorem Chs.row {w : World} {v : Value} {l : List Chg} (h : Chs w v l) {k : Nat} (hk : inRow v k) : ∃ cs, w.heap[k]? = some (.cells cs 72 (0, 0)) := by
  obtain ⟨n', c', e⟩ := hk
  rcases h with ⟨_, h⟩ | ⟨g, c, n, h1, h2, h3, h4, cs, h5, h6, h7⟩
  · rw [h] at e; cases e
  · rw [h1] at e; cases e; exact ⟨cs, h5⟩

theorem t72_size : Try.t72.size = 3 := by kernel_rfl
theorem t72_bytes : Try.t72.bytes = 40 := by kernel_rfl
theorem t72_info : Try.prog.info? 72 = some Try.t72 := by kernel_rfl
theorem t72_zero : Try.t72.zero = some (.agg #[.string ⟨#[]⟩, .string ⟨#[]⟩, .pointer none]) := by kernel_rfl

/-- One change that is appended. -/
theorem append_chg (w : World) (v : Value) (l : List Chg) (h : Chs w v l) (hlen : l.length ≤ 1000000000) (x : Chg) (a : Addr) (c : Nat) (ha : ∀ j u, [Value.string x.went, .string x.became, ptrOf x.file][j]? = some u → w.cell? (a.add j) = some u) :
    ∃ (g' n' c' : Nat) (w' : World), (∀ ty, (Builtin.append_ #[54, 54] ty #[v, .slice (some a) 1 c]).run Try.prog w = .ok (.slice (some ⟨g', 0, none⟩) n' c') w') ∧ Chs w' (.slice (some ⟨g', 0, none⟩) n' c') (l ++ [x]) ∧ Turns (inRow v) w w' ∧ ∀ k, inRow (.slice (some ⟨g', 0, none⟩) n' c') k → inRow v k ∨ w.heap.size ≤ k := by
  have hsrc : Src Try.prog Try.t72.size 54 (.slice (some a) 1 c) 1 [.string x.went, .string x.became, ptrOf x.file] w := Src.ofSlice w Try.underlying54 a 1 c _ (by rw [t72_size]; rfl) ha (fun u hu => by
    simp only [List.mem_cons, List.not_mem_nil, or_false] at hu
    rcases hu with rfl | rfl | rfl
    · rfl
    · rfl
    · cases x.file <;> rfl)
  obtain ⟨base, sLen, sCap, rfl, hsl, hbase⟩ : ∃ (base : Option Addr) (sLen sCap : Nat), v = .slice base sLen sCap ∧ sLen = l.length ∧ ((base = none ∧ sLen = 0 ∧ sCap = 0 ∧ 0 < 1) ∨ ∃ g, base = some ⟨g, 0, none⟩ ∧ 0 ≤ g ∧ sLen ≤ sCap ∧ RowC w g 72 (sCap * Try.t72.size) (chCells l)) := by
    rcases h with ⟨rfl, rfl⟩ | ⟨g, c, n, rfl, rfl, _, h4, h5⟩
    · exact ⟨none, 0, 0, rfl, rfl, .inl ⟨rfl, rfl, rfl, by omega⟩⟩
    · exact ⟨_, _, _, rfl, rfl, .inr ⟨g, rfl, Nat.zero_le _, h4, by rw [t72_size]; exact h5⟩⟩
  obtain ⟨g, cp, w', hr, hg, hrow, hb, hcp, hin, hout, hkeep⟩ := append_gen2 (P := Try.prog) w 0 54 72 Try.t72 _ Try.underlying54 t72_info t72_zero rfl base sLen sCap (chCells l) (by rw [chCells_length, t72_size, hsl]) _ 1 _ hsrc (Nat.zero_le _) hbase (by rw [t72_bytes]; omega) (by omega)
  refine ⟨g, _, cp, w', hr, .inr ⟨g, cp, _, rfl, by simp [hsl], by omega, hcp, ?_⟩, ⟨hb.os, hb.tape, hb.output, hb.size, fun k hk hn => hkeep k hk fun e => hn ⟨sLen, sCap, by rw [e]⟩⟩, fun k hk => ?_⟩
  · rw [t72_size] at hrow
    rw [chCells_snoc]
    exact hrow
  · obtain ⟨n', c', e⟩ := hk
    cases e
    rcases Nat.lt_or_ge sCap (sLen + 1) with hc | hc
    · exact .inr (by rw [hout hc]; exact Nat.le_refl _)
    · exact .inl ⟨sLen, sCap, by rw [(hin hc).1]⟩

theorem Dir.map {w : World} {b n : Nat} {D : DataW Unit} (h : Dir w b n D) : ∃ es clock, w.heap[b]? = some (.map es clock) := by
  obtain ⟨es, clock, hb, _⟩ := h
  exact ⟨es, clock, hb⟩
theorem Dir.ne_cells {w : World} {b n : Nat} {D : DataW Unit} (h : Dir w b n D) {k : Nat} {cs : Array Value} {t : TypeId} {fr : Nat × Nat} (hk : w.heap[k]? = some (.cells cs t fr)) : k ≠ b := by
  obtain ⟨es, clock, hb⟩ := h.map
  intro e
  rw [e, hb] at hk
  cases hk

set_option maxRecDepth 100000 in
set_option maxHeartbeats 4000000 in
theorem change_any (f b n : Nat) (D : DataW Unit) (l : List Chg) (c : Chg) (limit used lost ops fuse fault fail : Int) (on : Bool) (sy ch : Value) (w : World)
    (h : w.heap[f]? = some (.cells (fsCells limit (.map (some b)) sy ch used lost on ops fuse fault fail) 57 (0, 0))) (hd : Dir w b n D) (hl : Chs w ch l) (hn : n < maxLen) (hlen : l.length ≤ 1000000000) (h1 : c.went.size ≤ maxLen) (h2 : c.became.size ≤ maxLen) :
    Calls Try.prog 38 #[.pointer (some ⟨f, 0, none⟩), .agg c.cells] w fun e w' => (∃ v, e = .returned v) ∧ ∃ ch', w'.heap[f]? = some (.cells (fsCells limit (.map (some b)) sy ch' used lost on ops fuse fault fail) 57 (0, 0)) ∧ Dir w' b (n + 1) (applyD D c) ∧ Chs w' ch' (l ++ [c]) ∧
      Turns (fun k => k = f ∨ k = b ∨ inRow ch k) w w' ∧ ∀ k, inRow ch' k → inRow ch k ∨ w.heap.size ≤ k := by
  have hfb : f ≠ b := hd.ne_cells h
  have hfw := lt_of_heap h
  have hrb : ∀ k, inRow ch k → k ≠ b ∧ k ≠ f := fun k hk => by
    obtain ⟨cs, hc⟩ := hl.row hk
    refine ⟨hd.ne_cells hc, fun e => ?_⟩
    rw [e, h] at hc
    cases hc
  obtain ⟨went, became, file⟩ := c
  have T0 : Turns (fun k => k = f ∨ k = b ∨ inRow ch k) w (w.alloc (.cells #[.string went, .string became, ptrOf file] 72)) := (Turns.refl _ w).alloc _
  have hnew := heap_alloc_new w (.cells #[.string went, .string became, ptrOf file] 72)
  have hf0 := (heap_alloc_old w (.cells #[.string went, .string became, ptrOf file] 72) hfw).trans h
  have D0 := hide (World.ownsMap.alloc hd (.cells #[.string went, .string became, ptrOf file] 72))
  have L0 := hide (hl.keep ((Turns.refl (fun _ => False) w).alloc (.cells #[.string went, .string became, ptrOf file] 72)) (fun _ _ x => x))
  have hgb : w.heap.size ≠ b := fun e => by have := hd.lt; omega
  have hsz0 : (w.alloc (.cells #[.string went, .string became, ptrOf file] 72)).heap.size = w.heap.size + 1 := by simp
  clear h hl hd
  show Calls Try.prog 38 #[.pointer (some ⟨f, 0, none⟩), .agg #[.string went, .string became, ptrOf file]] w _
  go_enter Try.func38, Try.ntmps38
  go_wp2_with fail
  generalize w.alloc (.cells #[.string went, .string became, ptrOf file] 72) = w0 at *
  generalize hg0 : w.heap.size = g0 at *
  have c1 : w0.cell? ⟨f, 1, none⟩ = some (.map (some b)) := cell_of_row _ _ 1 _ 57 (0, 0) hf0
  have b0 : w0.cell? ⟨g0, 0, none⟩ = some (.string went) := cell_of_row _ _ 0 _ 72 (0, 0) hnew
  have b1 : w0.cell? ⟨g0, 1, none⟩ = some (.string became) := cell_of_row _ _ 1 _ 72 (0, 0) hnew
  have b2 : w0.cell? ⟨g0, 2, none⟩ = some (ptrOf file) := cell_of_row _ _ 2 _ 72 (0, 0) hnew
  have HT0 := hide T0
  have HF0 := hide hf0
  have HN0 := hide hnew
  have HRB := hide hrb
  clear T0 hf0 hnew hrb
  go_region_held (fun w' => w'.cell? ⟨f, 1, none⟩ = some (.map (some b)) ∧ w'.cell? ⟨g0, 0, none⟩ = some (.string went) ∧ w'.cell? ⟨g0, 1, none⟩ = some (.string became) ∧ w'.cell? ⟨g0, 2, none⟩ = some (ptrOf file)) (first | (with_reducible exact ⟨e1, e2, e3, e4⟩) | (simp only [World.cell?_drew]; with_reducible exact ⟨c1, b0, b1, b2⟩)) (first
    | (go_at_call 72; refine (apply_any b n D ⟨went, became, file⟩ _ (World.ownsMap.drew D0.out) hn h1 h2).mono ?_; rintro e w1 ⟨⟨v, rfl⟩, hd1, t1⟩; have e1 := t1.cell (a := w0.drew) c1 hfb; have e2 := t1.cell (a := w0.drew) b0 hgb; have e3 := t1.cell (a := w0.drew) b1 hgb; have e4 := t1.cell (a := w0.drew) b2 hgb; have HD1 := hide hd1; have HT1 := hide t1; clear hd1 t1))
  go_wp2_with fail
  clear e1 e2 e3 e4 c1 b0 b1 b2
  have HF1 := hide (HT1.out.heap (a := w0.drew) HF0.out hfb)
  have HN1 := hide (HT1.out.heap (a := w0.drew) HN0.out hgb)
  have HL1 := hide (L0.out.keep (w := w0.drew) HT1.out (fun k hk => (HRB.out k hk).1))
  have HT1' : Hid (Turns (fun k => k = f ∨ k = b ∨ inRow ch k) w w1) := HT0.out.drew.trans (HT1.out.mono fun k _ e => .inr (.inl e))
  have hx : (w1.drew.alloc (.cells #[.string went, .string became, ptrOf file] 72)).heap[w1.heap.size]? = some (.cells #[.string went, .string became, ptrOf file] 72 (0, 0)) := heap_alloc_new w1.drew _
  have T2 : Turns (fun _ => False) w1 (w1.drew.alloc (.cells #[.string went, .string became, ptrOf file] 72)) := (Turns.refl _ w1).drew.alloc _
  obtain ⟨g3, n3, c3, w3, hr3, hl3, t3, hin3⟩ := append_chg (w1.drew.alloc (.cells #[.string went, .string became, ptrOf file] 72)) ch l (HL1.out.keep T2 (fun _ _ x => x)) hlen ⟨went, became, file⟩ ⟨w1.heap.size, 0, none⟩ 1 (fun j u hu => by
    rw [Go.WideShapes.add_plain, Nat.zero_add, cell_of_row _ _ _ _ _ _ hx, List.getElem?_toArray]
    exact hu)
  have HT3 := hide ((HT1'.out.trans (T2.mono fun _ _ x => x.elim)).trans (t3.mono fun k _ e => .inr (.inr e)))
  have HF3 := hide (t3.heap (T2.heap HF1.out (fun x => x)) (fun hk => (HRB.out f hk).2 rfl))
  have HD3 := hide ((HD1.out.keep T2 (fun x => x)).keep t3 (fun hk => (HRB.out b hk).1 rfl))
  have HL3 := hide hl3
  have hin : ∀ k, inRow (.slice (some ⟨g3, 0, none⟩) n3 c3) k → inRow ch k ∨ g0 ≤ k := fun k hk => (hin3 k hk).imp id fun hle => Nat.le_trans (by rw [← hg0]; exact Nat.le_trans HT1'.out.size T2.size) hle
  have HIN := hide hin
  have FIN : Hid ((∃ v, Ending.returned (Value.tuple #[]) = Ending.returned v) ∧ ∃ ch', (w3.setCell ⟨f, 3, none⟩ (.slice (some ⟨g3, 0, none⟩) n3 c3)).heap[f]? = some (.cells (fsCells limit (.map (some b)) sy ch' used lost on ops fuse fault fail) 57 (0, 0)) ∧
      Dir (w3.setCell ⟨f, 3, none⟩ (.slice (some ⟨g3, 0, none⟩) n3 c3)) b (n + 1) (applyD D ⟨went, became, file⟩) ∧ Chs (w3.setCell ⟨f, 3, none⟩ (.slice (some ⟨g3, 0, none⟩) n3 c3)) ch' (l ++ [⟨went, became, file⟩]) ∧
      Turns (fun k => k = f ∨ k = b ∨ inRow ch k) w (w3.setCell ⟨f, 3, none⟩ (.slice (some ⟨g3, 0, none⟩) n3 c3)) ∧ ∀ k, inRow ch' k → inRow ch k ∨ w.heap.size ≤ k) := by
    have hgf : ∀ k, inRow (.slice (some ⟨g3, 0, none⟩) n3 c3) k → ¬ k = f := fun k hk e => by
      rcases HIN.out k hk with h | h
      · exact (HRB.out k h).2 e
      · omega
    refine ⟨⟨_, rfl⟩, _, heap_setCell_same w3 f 3 _ 57 _ HF3.out, HD3.out.setCell (by exact hfb.symm) _, HL3.out.keep ((Turns.refl (fun k => k = f) w3).setCell rfl _) hgf, HT3.out.setCell (.inl rfl) _, fun k hk => ?_⟩
    rw [hg0]
    exact HIN.out k hk
  have hq := hr3 54
  have q3 : w1.cell? ⟨f, 3, none⟩ = some ch := cell_of_row _ _ 3 _ 57 (0, 0) HF1.out
  have q3' : (w1.alloc (.cells #[.string went, .string became, ptrOf file] 72)).cell? ⟨f, 3, none⟩ = some ch := cell_of_row _ _ 3 _ 57 (0, 0) ((heap_alloc_old w1 _ (lt_of_heap HF1.out)).trans HF1.out)
  have q0 : w1.cell? ⟨g0, 0, none⟩ = some (.string went) := cell_of_row _ _ 0 _ 72 (0, 0) HN1.out
  have q1 : w1.cell? ⟨g0, 1, none⟩ = some (.string became) := cell_of_row _ _ 1 _ 72 (0, 0) HN1.out
  have q2 : w1.cell? ⟨g0, 2, none⟩ = some (ptrOf file) := cell_of_row _ _ 2 _ 72 (0, 0) HN1.out
  have y3 : w3.cell? ⟨f, 3, none⟩ = some ch := cell_of_row _ _ 3 _ 57 (0, 0) HF3.out
  have z3 : w3.frozen? ⟨f, 3, none⟩ = false := frozen_of_row _ _ 3 _ 57 HF3.out
  clear hx T2 hl3 t3 hin3 hr3 hin
  go_region_law (first
    | (refine step_append_run rfl (.tmp 14) (.tmp 16) 54 rfl _ _ rfl rfl _ _ hq 17 rfl ?_; simp only [Act.put, List.setIfInBounds_toArray, List.set_cons_zero, List.set_cons_succ]))
  all_goals go_wp2_with fail
  all_goals go_end0
  all_goals exact FIN.out
end Go.Proofs.Ytefjljdgdoklmaa
