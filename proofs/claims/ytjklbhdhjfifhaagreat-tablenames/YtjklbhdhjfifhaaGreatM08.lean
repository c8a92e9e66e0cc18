import Derived.Test.YtjklbhdhjfifhaaGreatM04
import Derived.Maps.OwnSet
import Derived.Maps.Ext
/-
  The directory: a map from names to files, its changes, and what a call leaves alone.
-/
namespace Go.Proofs.YtjklbhdhjfifhaaGreat
open Go.RowKit Go.Maps

theorem Turns.of_tickV {w w' : World} {f : Nat} {t : TypeId} {cs : Array Value} (h : TickV w w' f t cs) : Turns (fun k => k = f) w w' := by
  have hb := h.2.2.2 0 (Nat.zero_le _)
  exact ⟨hb.os, hb.tape, hb.output, hb.size, fun k _ hn => h.2.2.1 k hn⟩
/-- What a pointer to a file is in a directory: its block's number. -/
def ptrR : Value → Option (DataW Unit × List MemPlace)
  | .pointer none => some (.nil, [])
  | .pointer (some ⟨g, 0, none⟩) => some (.lit (.int .i64 (g : Nat)), [])
  | _ => none
theorem ptrR_none : ptrR (.pointer none) = some (.nil, []) := rfl
theorem ptrR_some (g : Nat) : ptrR (.pointer (some ⟨g, 0, none⟩)) = some (.lit (.int .i64 (g : Nat)), []) := rfl
theorem ptrR_inv {v : Value} {d : DataW Unit} {ps : List MemPlace} (h : ptrR v = some (d, ps)) : (v = .pointer none ∧ d = .nil) ∨ ∃ g : Nat, v = .pointer (some ⟨g, 0, none⟩) ∧ d = .lit (.int .i64 (g : Nat)) := by
  unfold ptrR at h
  split at h
  · cases h; exact .inl ⟨rfl, rfl⟩
  · cases h; exact .inr ⟨_, rfl, rfl⟩
  · cases h

theorem law9 : Keyed Tryz.prog 9 := string_keyed Tryz.underlying9
theorem zero67 (w : World) : (zeroValue 97).run Tryz.prog w = .ok (.pointer none) w := by kernel_rfl
/-- A name as a key. -/
def key (s : ByteArray) : Lit := .string s.data.toList
theorem keyOf9 (s : ByteArray) (h : s.size ≤ maxLen) : keyOf Tryz.prog 9 (.string s) = some (key s) := Go.WideMaps.keyOf_string_mk Tryz.underlying9 h

/-- A directory in memory. -/
abbrev Dir (w : World) (b n : Nat) (D : DataW Unit) : Prop := w.ownsMap Tryz.prog 9 ptrR b n D
theorem Dir.keep {S : Nat → Prop} {w w' : World} {b n : Nat} {D : DataW Unit} (h : Dir w b n D) (ht : Turns S w w') (hn : ¬ S b) : Dir w' b n D := by
  obtain ⟨es, clock, hb, F, hs, hD⟩ := h
  exact ⟨es, clock, ht.heap hb hn, F, hs, hD⟩

/-- A change of the directory. -/
structure Chg where
  went : ByteArray
  became : ByteArray
  file : Option Nat
def ptrOf : Option Nat → Value
  | none => .pointer none
  | some g => .pointer (some ⟨g, 0, none⟩)
def Chg.cells (c : Chg) : Array Value := #[.string c.went, .string c.became, ptrOf c.file]
def applyD (D : DataW Unit) (c : Chg) : DataW Unit :=
  match c.file with
  | none => D.del (key c.went)
  | some g => (D.del (key c.went)).put (key c.became) (.lit (.int .i64 (g : Nat)))

set_option maxRecDepth 100000 in
set_option maxHeartbeats 1000000 in
theorem apply_any (b n : Nat) (D : DataW Unit) (c : Chg) (w : World) (h : Dir w b n D) (hn : n < maxLen) (h1 : c.went.size ≤ maxLen) (h2 : c.became.size ≤ maxLen) :
    Calls Tryz.prog 104 #[.map (some b), .agg c.cells] w fun e w' => (∃ v, e = .returned v) ∧ Dir w' b (n + 1) (applyD D c) ∧ Turns (fun k => k = b) w w' := by
  obtain ⟨went, became, file⟩ := c
  have hbx : Turns (fun k => k = b) w (w.alloc (.cells #[.string went, .string became, ptrOf file] 111)) := (Turns.refl _ w).alloc _
  have hnew := heap_alloc_new w (.cells #[.string went, .string became, ptrOf file] 111)
  have hb := h.lt
  obtain ⟨w1, hdel, hd1, ht1⟩ := (World.ownsMap.alloc h (.cells #[.string went, .string became, ptrOf file] 111)).drop law9 Tryz.underlying68 (keyOf9 went h1) 0
  have k1 : Turns (fun k => k = b) (w.alloc (.cells #[.string went, .string became, ptrOf file] 111)) w1 := (Turns.of_grown ht1.grown).mono fun k _ e => by cases e; rfl
  have hnb : ¬ w.heap.size = b := by omega
  have c0 : (w.alloc (.cells #[.string went, .string became, ptrOf file] 111)).cell? ⟨w.heap.size, 0, none⟩ = some (.string went) := cell_of_row _ _ 0 _ 111 (0, 0) hnew
  have hx1 := k1.heap hnew hnb
  have c2 : w1.cell? ⟨w.heap.size, 2, none⟩ = some (ptrOf file) := cell_of_row _ _ 2 _ 111 (0, 0) hx1
  have c1 : w1.cell? ⟨w.heap.size, 1, none⟩ = some (.string became) := cell_of_row _ _ 1 _ 111 (0, 0) hx1
  have T1 := hide (hbx.trans k1)
  have HD := hide hdel
  have HD1 := hide hd1
  clear hbx hnew k1 hx1 hdel hd1 ht1 h
  cases file with
  | none =>
    simp only [ptrOf] at c0 c2 T1 HD HD1
    show Calls Tryz.prog 104 #[.map (some b), .agg #[.string went, .string became, .pointer none]] w _
    have hdel := HD.out
    go_enter Tryz.func104, Tryz.ntmps104
    go_wp2_with fail
    go_end0
    exact ⟨⟨_, rfl⟩, HD1.out.mono (Nat.le_succ _), T1.out⟩
  | some g =>
    simp only [ptrOf] at c0 c2 T1 HD HD1
    obtain ⟨w2, hup, hd2, ht2⟩ := HD1.out.store law9 Tryz.underlying68 hn (keyOf9 became h2) (ptrR_some g)
    have T2 := hide (T1.out.trans ((Turns.of_grown ht2.grown).mono fun k _ e => by cases e; rfl))
    have HD2 := hide hd2
    clear ht2 hd2
    show Calls Tryz.prog 104 #[.map (some b), .agg #[.string went, .string became, .pointer (some ⟨g, 0, none⟩)]] w _
    have hdel := HD.out
    go_enter Tryz.func104, Tryz.ntmps104
    go_wp2_with fail
    go_end0
    exact ⟨⟨_, rfl⟩, HD2.out, T2.out⟩
end Go.Proofs.YtjklbhdhjfifhaaGreat
