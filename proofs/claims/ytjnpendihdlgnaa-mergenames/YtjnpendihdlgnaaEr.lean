/-
  Rows of entries of one's own.
-/
import Derived.Test.YtjnpendihdlgnaaTw
namespace Go.Proofs.Ytjnpendihdlgnaa
open Go.RowKit
set_option maxRecDepth 100000
theorem t29_size : Try.t25.size = 4 := by kernel_rfl
theorem t29_bytes : Try.t25.bytes = 64 := by kernel_rfl
theorem t29_info : Try.prog.info? 25 = some Try.t25 := by kernel_rfl
theorem t29_zero : Try.t25.zero = some (.agg #[.slice none 0 0, .int .u64 0, .int .i64 0, .slice none 0 0]) := by kernel_rfl
def entCells (R : List Tow) : List Value := R.flatMap fun x => [x.kv, .int .u64 (x.e.seq : Nat), .int .i64 x.e.kind, x.vv]
theorem entCells_length (R : List Tow) : (entCells R).length = R.length * 4 := by
  induction R with
  | nil => rfl
  | cons x r ih => simp only [entCells, List.flatMap_cons, List.length_append, List.length_cons, List.length_nil] at ih ⊢; omega
theorem entCells_snoc (R : List Tow) (x : Tow) : entCells (R ++ [x]) = entCells R ++ [x.kv, .int .u64 (x.e.seq : Nat), .int .i64 x.e.kind, x.vv] := by
  simp [entCells]
theorem entCells_at (R : List Tow) (k : Nat) (x : Tow) (h : R[k]? = some x) : (entCells R)[k * 4]? = some x.kv ∧ (entCells R)[k * 4 + 1]? = some (.int .u64 (x.e.seq : Nat)) ∧ (entCells R)[k * 4 + 2]? = some (.int .i64 x.e.kind) ∧ (entCells R)[k * 4 + 3]? = some x.vv := by
  induction R generalizing k with
  | nil => simp at h
  | cons y r ih =>
    cases k with
    | zero =>
      obtain rfl : y = x := by simpa using h
      exact ⟨rfl, rfl, rfl, rfl⟩
    | succ k =>
      have := ih k (by simpa using h)
      have e : ∀ j, (entCells (y :: r))[(k + 1) * 4 + j]? = (entCells r)[k * 4 + j]? := fun j => by
        show ([y.kv, .int .u64 (y.e.seq : Nat), .int .i64 y.e.kind, y.vv] ++ entCells r)[(k + 1) * 4 + j]? = _
        rw [List.getElem?_append_right (by simp; omega)]
        congr 1
        simp
        omega
      exact ⟨(e 0).trans this.1, by rw [e 1]; exact this.2.1, by rw [e 2]; exact this.2.2.1, by rw [e 3]; exact this.2.2.2⟩
/-- Each entry's bytes, behind B. -/
def Shown (w : World) (B : Nat) (R : List Tow) : Prop := ∀ x, x ∈ R → Bytes w x.kv x.e.key ∧ Bytes w x.vv x.e.val ∧ ∀ q, x.bytesIn q → B ≤ q ∧ q < w.heap.size
def inRow (v : Value) (k : Nat) : Prop := ∃ n c, v = .slice (some ⟨k, 0, none⟩) n c
def ERow (w : World) (B : Nat) (v : Value) (R : List Tow) : Prop :=
  (R = [] ∧ v = .slice none 0 0) ∨ ∃ g c n : Nat, v = .slice (some ⟨g, 0, none⟩) n c ∧ n = R.length ∧ n ≤ c ∧ B ≤ g ∧ RowC w g 25 (c * 4) (entCells R)
theorem ERow.row {w : World} {B : Nat} {v : Value} {R : List Tow} (h : ERow w B v R) {k : Nat} (hk : inRow v k) : B ≤ k ∧ k < w.heap.size := by
  obtain ⟨n', c', e⟩ := hk
  rcases h with ⟨_, rfl⟩ | ⟨g, c, n, rfl, _, _, hB, cs, h1, _⟩
  · cases e
  · cases e; exact ⟨hB, lt_of_heap h1⟩
theorem ERow.keep {S : Nat → Prop} {w w' : World} {B : Nat} {v : Value} {R : List Tow} (h : ERow w B v R) (t : Turns S w w') (hn : ∀ k, inRow v k → ¬ S k) : ERow w' B v R := by
  rcases h with h | ⟨g, c, n, h1, h2, h3, h4, cs, h5, h6, h7⟩
  · exact .inl h
  · exact .inr ⟨g, c, n, h1, h2, h3, h4, cs, t.heap h5 (hn g ⟨n, c, h1⟩), h6, h7⟩
theorem ERow.len {w : World} {B : Nat} {v : Value} {R : List Tow} (h : ERow w B v R) : ∃ a c, v = .slice a R.length c := by
  rcases h with ⟨rfl, rfl⟩ | ⟨g, c, n, rfl, rfl, _⟩
  · exact ⟨none, 0, rfl⟩
  · exact ⟨_, _, rfl⟩
theorem Shown.keep {S : Nat → Prop} {w w' : World} {B : Nat} {R : List Tow} (h : Shown w B R) (t : Turns S w w') (hS : ∀ x, x ∈ R → ∀ q, x.bytesIn q → ¬ S q) : Shown w' B R := fun x hx =>
  ⟨bytes_keep (h x hx).1 t fun a e => hS x hx _ (.inl ⟨a, e, rfl⟩), bytes_keep (h x hx).2.1 t fun a e => hS x hx _ (.inr ⟨a, e, rfl⟩), fun q hq => ⟨((h x hx).2.2 q hq).1, Nat.lt_of_lt_of_le ((h x hx).2.2 q hq).2 t.size⟩⟩
theorem append_ent (w : World) (B : Nat) (v : Value) (R : List Tow) (h : ERow w B v R) (hB : B ≤ w.heap.size) (hlen : R.length ≤ 1000000000) (x : Tow) (g c : Nat) (hg : w.heap[g]? = some (.cells #[x.kv, .int .u64 (x.e.seq : Nat), .int .i64 x.e.kind, x.vv] 25 (0, 0))) :
    ∃ (g' n' c' : Nat) (w' : World), (∀ ty, (Builtin.append_ #[27, 27] ty #[v, .slice (some ⟨g, 0, none⟩) 1 c]).run Try.prog w = .ok (.slice (some ⟨g', 0, none⟩) n' c') w') ∧ ERow w' B (.slice (some ⟨g', 0, none⟩) n' c') (R ++ [x]) ∧ Turns (inRow v) w w' ∧ Below B w w' ∧ (inRow v g' ∨ g' = w.heap.size) := by
  have hcell : ∀ j, w.cell? ⟨g, j, none⟩ = (#[x.kv, .int .u64 (x.e.seq : Nat), .int .i64 x.e.kind, x.vv] : Array Value)[j]? := fun j => cell_of_row w g j _ 25 (0, 0) hg
  have hsrc : Src Try.prog Try.t25.size 27 (.slice (some ⟨g, 0, none⟩) 1 c) 1 [x.kv, .int .u64 (x.e.seq : Nat), .int .i64 x.e.kind, x.vv] w := Src.ofSlice w Try.underlying27 ⟨g, 0, none⟩ 1 c _ (by rw [t29_size]; rfl) (fun j u hu => by
    rw [Go.WideShapes.add_plain, Nat.zero_add, hcell j]
    simpa using hu) (fun u hu => by
    simp only [List.mem_cons, List.not_mem_nil, or_false] at hu
    rcases hu with rfl | rfl | rfl | rfl <;> rfl)
  obtain ⟨base, sLen, sCap, rfl, hsl, hbase⟩ : ∃ (base : Option Addr) (sLen sCap : Nat), v = .slice base sLen sCap ∧ sLen = R.length ∧ ((base = none ∧ sLen = 0 ∧ sCap = 0 ∧ 0 < 1) ∨ ∃ g, base = some ⟨g, 0, none⟩ ∧ B ≤ g ∧ sLen ≤ sCap ∧ RowC w g 25 (sCap * Try.t25.size) (entCells R)) := by
    rcases h with ⟨rfl, rfl⟩ | ⟨g, c, n, rfl, rfl, h3, h4, h5⟩
    · exact ⟨none, 0, 0, rfl, rfl, .inl ⟨rfl, rfl, rfl, by omega⟩⟩
    · exact ⟨_, _, _, rfl, rfl, .inr ⟨g, rfl, h4, h3, by rw [t29_size]; exact h5⟩⟩
  obtain ⟨g', cp, w', hr, hg', hrow, hb, hcp, hin, hnew, hkeep⟩ := append_gen2 (P := Try.prog) w B 27 25 Try.t25 _ Try.underlying27 t29_info t29_zero rfl base sLen sCap (entCells R) (by rw [t29_size, hsl, entCells_length]) _ 1 _ hsrc hB hbase (by rw [t29_bytes]; omega) (by omega)
  refine ⟨g', _, cp, w', hr, .inr ⟨g', cp, _, rfl, by simp [hsl], hcp, hg', ?_⟩, ⟨hb.os, hb.tape, hb.output, hb.size, fun k hk hn => hkeep k hk fun e => hn ⟨sLen, sCap, by rw [e]⟩⟩, hb, ?_⟩
  · rw [t29_size] at hrow
    rw [entCells_snoc]
    exact hrow
  · rcases Nat.lt_or_ge sCap (sLen + 1) with h1 | h1
    · exact .inr (hnew h1)
    · exact .inl ⟨sLen, sCap, by rw [(hin h1).1]⟩
end Go.Proofs.Ytjnpendihdlgnaa
