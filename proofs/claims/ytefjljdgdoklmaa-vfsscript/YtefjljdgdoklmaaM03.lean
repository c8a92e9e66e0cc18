import Derived.Test.YtefjljdgdoklmaaM01
import Derived.Maps.OwnSet
import Derived.Maps.Ext
/-
  The directory: a map from names to files, its changes, and what a call leaves alone.
-/
namespace Go.Proofs.Ytefjljdgdoklmaa
open Go.RowKit Go.Maps

/-- Of the blocks that were there only some may have turned. -/
structure Turns (S : Nat → Prop) (w w' : World) : Prop where
  os : w'.os = w.os
  tape : w'.tape = w.tape
  output : w'.output = w.output
  size : w.heap.size ≤ w'.heap.size
  block : ∀ k, k < w.heap.size → ¬ S k → w'.heap[k]? = w.heap[k]?
theorem Turns.refl (S : Nat → Prop) (w : World) : Turns S w w := ⟨rfl, rfl, rfl, Nat.le_refl _, fun _ _ _ => rfl⟩
theorem Turns.trans {S : Nat → Prop} {a b c : World} (h : Turns S a b) (k : Turns S b c) : Turns S a c :=
  ⟨k.os.trans h.os, k.tape.trans h.tape, k.output.trans h.output, Nat.le_trans h.size k.size, fun i hi hs => (k.block i (Nat.lt_of_lt_of_le hi h.size) hs).trans (h.block i hi hs)⟩
theorem Turns.mono {S S' : Nat → Prop} {a b : World} (h : Turns S a b) (hs : ∀ k, k < a.heap.size → S k → S' k) : Turns S' a b :=
  ⟨h.os, h.tape, h.output, h.size, fun i hi hn => h.block i hi fun x => hn (hs i hi x)⟩
/-- Two steps, the second of which may also turn what the first one made. -/
theorem Turns.andThen {S S' : Nat → Prop} {a b c : World} (h : Turns S a b) (k : Turns S' b c) (hs : ∀ k, k < a.heap.size → S' k → S k) : Turns S a c :=
  ⟨k.os.trans h.os, k.tape.trans h.tape, k.output.trans h.output, Nat.le_trans h.size k.size, fun i hi hn => (k.block i (Nat.lt_of_lt_of_le hi h.size) fun x => hn (hs i hi x)).trans (h.block i hi hn)⟩
theorem Turns.alloc {S : Nat → Prop} {a w : World} (h : Turns S a w) (o : Obj) : Turns S a (w.alloc o) :=
  h.trans ⟨rfl, rfl, rfl, by simp, fun k hk _ => Below.heap_alloc w o k hk⟩
theorem Turns.drew {S : Nat → Prop} {a w : World} (h : Turns S a w) : Turns S a w.drew := ⟨h.os, h.tape, h.output, h.size, h.block⟩
theorem Turns.drewN {S : Nat → Prop} {a w : World} (h : Turns S a w) (n : Nat) : Turns S a (w.drewN n) := h.trans ⟨rfl, rfl, rfl, Nat.le_refl _, fun _ _ _ => rfl⟩
theorem Turns.below {S : Nat → Prop} {a w : World} (h : Turns S a w) {B : Nat} (hB : B ≤ a.heap.size) (hs : ∀ k, S k → B ≤ k) : Below B a w :=
  ⟨h.os, h.tape, h.output, h.size, fun k hk => h.block k (Nat.lt_of_lt_of_le hk hB) fun x => by have := hs k x; omega⟩
theorem Turns.of_below {w w' : World} (h : Below w.heap.size w w') (S : Nat → Prop) : Turns S w w' := ⟨h.os, h.tape, h.output, h.size, fun k hk _ => h.block k hk⟩
theorem Turns.of_grown {w w' : World} {r : Option Nat} (h : w.grownBy w' r) : Turns (fun k => r = some k) w w' := ⟨h.os, h.tape, h.output, h.size, fun k hk hn => h.block k hk fun e => hn e.symm⟩
theorem Turns.of_tick {w w' : World} {f : Nat} {t : TypeId} {cs : Array Value} (h : Tick w w' f t cs) : Turns (fun k => k = f) w w' := by
  have hb := h.2.2.2 0 (Nat.zero_le _)
  exact ⟨hb.os, hb.tape, hb.output, hb.size, fun k _ hn => h.2.2.1 k hn⟩
theorem Turns.heap {S : Nat → Prop} {a w : World} (h : Turns S a w) {k : Nat} {o : Obj} (ho : a.heap[k]? = some o) (hn : ¬ S k) : w.heap[k]? = some o := (h.block k (lt_of_heap ho) hn).trans ho
theorem Turns.cell {S : Nat → Prop} {a w : World} (h : Turns S a w) {p : Addr} {v : Value} (ho : a.cell? p = some v) (hn : ¬ S p.block) : w.cell? p = some v :=
  (World.cell?_of_block (h.block p.block (block_lt_of_cell ho) hn)).trans ho
theorem Turns.grown {a w : World} {r : Nat} (h : Turns (fun k => k = r) a w) : a.grownBy w (some r) := ⟨h.os, h.tape, h.output, h.size, fun k hk hn => h.block k hk fun e => hn (by rw [e])⟩

/-- What a pointer to a file is in a directory: its block's number. -/
def ptrR : Value → Option (DataW Unit × List MemPlace)
  | .pointer none => some (.nil, [])
  | .pointer (some ⟨g, 0, none⟩) => some (.lit (.int .i64 (g : Nat)), [])
  | _ => none
theorem ptrR_none : ptrR (.pointer none) = some (.nil, []) := rfl
theorem ptrR_some (g : Nat) : ptrR (.pointer (some ⟨g, 0, none⟩)) = some (.lit (.int .i64 (g : Nat)), []) := rfl
theorem ptrR_inv {v : Value} {d : DataW Unit} {ps : List MemPlace} (h : ptrR v = some (d, ps)) : (v = .pointer none ∧ d = .nil) ∨ ∃ g : Nat, v = .pointer (some ⟨g, 0, none⟩) ∧ d = .lit (.int .i64 (g : Nat)) := by
  unfold ptrR at h
  split at h
  · cases h; exact .inl ⟨rfl, rfl⟩
  · cases h; exact .inr ⟨_, rfl, rfl⟩
  · cases h

theorem law9 : Keyed Try.prog 9 := string_keyed Try.underlying9
theorem zero67 (w : World) : (zeroValue 67).run Try.prog w = .ok (.pointer none) w := by kernel_rfl
/-- A name as a key. -/
def key (s : ByteArray) : Lit := .string s.data.toList
theorem keyOf9 (s : ByteArray) (h : s.size ≤ maxLen) : keyOf Try.prog 9 (.string s) = some (key s) := Go.WideMaps.keyOf_string_mk Try.underlying9 h

/-- A directory in memory. -/
abbrev Dir (w : World) (b n : Nat) (D : DataW Unit) : Prop := w.ownsMap Try.prog 9 ptrR b n D
theorem Dir.keep {S : Nat → Prop} {w w' : World} {b n : Nat} {D : DataW Unit} (h : Dir w b n D) (ht : Turns S w w') (hn : ¬ S b) : Dir w' b n D := by
  obtain ⟨es, clock, hb, F, hs, hD⟩ := h
  exact ⟨es, clock, ht.heap hb hn, F, hs, hD⟩

/-- A change of the directory. -/
structure Chg where
  went : ByteArray
  became : ByteArray
  file : Option Nat
def ptrOf : Option Nat → Value
  | none => .pointer none
  | some g => .pointer (some ⟨g, 0, none⟩)
def Chg.cells (c : Chg) : Array Value := #[.string c.went, .string c.became, ptrOf c.file]
def applyD (D : DataW Unit) (c : Chg) : DataW Unit :=
  match c.file with
  | none => D.del (key c.went)
  | some g => (D.del (key c.went)).put (key c.became) (.lit (.int .i64 (g : Nat)))

set_option maxRecDepth 100000 in
set_option maxHeartbeats 1000000 in
theorem apply_any (b n : Nat) (D : DataW Unit) (c : Chg) (w : World) (h : Dir w b n D) (hn : n < maxLen) (h1 : c.went.size ≤ maxLen) (h2 : c.became.size ≤ maxLen) :
    Calls Try.prog 72 #[.map (some b), .agg c.cells] w fun e w' => (∃ v, e = .returned v) ∧ Dir w' b (n + 1) (applyD D c) ∧ Turns (fun k => k = b) w w' := by
  obtain ⟨went, became, file⟩ := c
  have hbx : Turns (fun k => k = b) w (w.alloc (.cells #[.string went, .string became, ptrOf file] 72)) := (Turns.refl _ w).alloc _
  have hnew := heap_alloc_new w (.cells #[.string went, .string became, ptrOf file] 72)
  have hb := h.lt
  obtain ⟨w1, hdel, hd1, ht1⟩ := (World.ownsMap.alloc h (.cells #[.string went, .string became, ptrOf file] 72)).drop law9 Try.underlying53 (keyOf9 went h1) 0
  have k1 : Turns (fun k => k = b) (w.alloc (.cells #[.string went, .string became, ptrOf file] 72)) w1 := (Turns.of_grown ht1.grown).mono fun k _ e => by cases e; rfl
  have hnb : ¬ w.heap.size = b := by omega
  have c0 : (w.alloc (.cells #[.string went, .string became, ptrOf file] 72)).cell? ⟨w.heap.size, 0, none⟩ = some (.string went) := cell_of_row _ _ 0 _ 72 (0, 0) hnew
  have hx1 := k1.heap hnew hnb
  have c2 : w1.cell? ⟨w.heap.size, 2, none⟩ = some (ptrOf file) := cell_of_row _ _ 2 _ 72 (0, 0) hx1
  have c1 : w1.cell? ⟨w.heap.size, 1, none⟩ = some (.string became) := cell_of_row _ _ 1 _ 72 (0, 0) hx1
  have T1 := hide (hbx.trans k1)
  have HD := hide hdel
  have HD1 := hide hd1
  clear hbx hnew k1 hx1 hdel hd1 ht1 h
  cases file with
  | none =>
    simp only [ptrOf] at c0 c2 T1 HD HD1
    show Calls Try.prog 72 #[.map (some b), .agg #[.string went, .string became, .pointer none]] w _
    have hdel := HD.out
    go_enter Try.func72, Try.ntmps72
    go_wp2_with fail
    go_end0
    exact ⟨⟨_, rfl⟩, HD1.out.mono (Nat.le_succ _), T1.out⟩
  | some g =>
    simp only [ptrOf] at c0 c2 T1 HD HD1
    obtain ⟨w2, hup, hd2, ht2⟩ := HD1.out.store law9 Try.underlying53 hn (keyOf9 became h2) (ptrR_some g)
    have T2 := hide (T1.out.trans ((Turns.of_grown ht2.grown).mono fun k _ e => by cases e; rfl))
    have HD2 := hide hd2
    clear ht2 hd2
    show Calls Try.prog 72 #[.map (some b), .agg #[.string went, .string became, .pointer (some ⟨g, 0, none⟩)]] w _
    have hdel := HD.out
    go_enter Try.func72, Try.ntmps72
    go_wp2_with fail
    go_end0
    exact ⟨⟨_, rfl⟩, HD2.out, T2.out⟩
end Go.Proofs.Ytefjljdgdoklmaa

/-
  Lists of texts, and how they are compared.
-/
namespace Go.Proofs.Ytefjljdgdoklmaa
open Go.RowKit

/-- Texts in a slice. -/
def Strs (w : World) (a : Option Addr) (n : Nat) (ss : List ByteArray) : Prop :=
  n = ss.length ∧ ∀ k, k < n → ∃ q o, a = some ⟨q, o, none⟩ ∧ w.cell? ⟨q, o + k, none⟩ = some (.string (ss.getD k ⟨#[]⟩))
theorem Strs.keep {S : Nat → Prop} {w w' : World} {a : Option Addr} {n : Nat} {ss : List ByteArray} (h : Strs w a n ss) (t : Turns S w w') (ha : ∀ q o, a = some ⟨q, o, none⟩ → ¬ S q) : Strs w' a n ss := by
  refine ⟨h.1, fun k hk => ?_⟩
  obtain ⟨q, o, e1, e2⟩ := h.2 k hk
  exact ⟨q, o, e1, t.cell e2 (ha q o e1)⟩

set_option maxRecDepth 100000 in
set_option maxHeartbeats 1000000 in
/-- The same texts are found the same. -/
theorem strings_same (a a' : Option Addr) (n c c' : Nat) (ss : List ByteArray) (w : World) (h : Strs w a n ss) (h' : Strs w a' n ss) (hn : n ≤ 1000000000) :
    Calls Try.prog 16 #[.slice a n c, .slice a' n c'] w fun e w' => e = .returned (.bool true) ∧ ∃ m, w' = w.drewN m := by
  have H := hide h
  have H' := hide h'
  clear h h'
  go_enter Try.func16, Try.ntmps16
  go_wp2
  go_loopw [5] (fun i wr => ∃ k : Nat, i = .int .i64 (k : Nat) ∧ k ≤ n ∧ ∃ m, wr = w.drewN m) (fun i _ => n - (intOf i).toNat)
  case atStart => exact ⟨0, rfl, Nat.zero_le _, 0, rfl⟩
  case round =>
    obtain ⟨k, rfl, hk, m, rfl⟩ := hrel
    by_cases hkn : k < n
    · obtain ⟨b, off, rfl, h1⟩ := H.out.2 k hkn
      obtain ⟨b', off', rfl, h2⟩ := H'.out.2 k hkn
      generalize hx : ss.getD k ⟨#[]⟩ = x at *
      clear hx
      have i1 : (k : Int) < (n : Int) := by omega
      have i0 : (0 : Int) ≤ (k : Int) := by omega
      go_wp2_with fail
      go_quiet (fail)
      go_wp2
      go_roundw
      case rel => exact ⟨k + 1, by go_num, by omega, _, rfl⟩
      case measure => simp [intOf]; omega
    · obtain rfl : k = n := by omega
      go_wp2
      go_ret
      exact ⟨rfl, m, rfl⟩
end Go.Proofs.Ytefjljdgdoklmaa
