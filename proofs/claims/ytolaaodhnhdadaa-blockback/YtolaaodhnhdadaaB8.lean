/-
  Rows of numbers of one's own.
-/
import Derived.Test.YtolaaodhnhdadaaB7
namespace Go.Proofs.Ytolaaodhnhdadaa
open Go.RowKit
set_option maxRecDepth 100000
set_option maxHeartbeats 4000000
theorem t3_size : Try.t3.size = 1 := by kernel_rfl
theorem t3_bytes : Try.t3.bytes = 8 := by kernel_rfl
theorem t3_info : Try.prog.info? 3 = some Try.t3 := by kernel_rfl
theorem t3_zero : Try.t3.zero = some (.int .i64 0) := by kernel_rfl
def intCells (R : List Nat) : List Value := R.map fun x => .int .i64 (x : Nat)
/-- Numbers in a row of one's own. -/
def IRow (w : World) (B : Nat) (v : Value) (R : List Nat) : Prop :=
  (R = [] ∧ v = .slice none 0 0) ∨ ∃ g c n : Nat, v = .slice (some ⟨g, 0, none⟩) n c ∧ n = R.length ∧ n ≤ c ∧ B ≤ g ∧ RowC w g 3 c (intCells R)
theorem IRow.row {w : World} {B : Nat} {v : Value} {R : List Nat} (h : IRow w B v R) {k : Nat} (hk : inRow v k) : B ≤ k ∧ k < w.heap.size := by
  obtain ⟨n', c', e⟩ := hk
  rcases h with ⟨_, rfl⟩ | ⟨g, c, n, rfl, _, _, hB, cs, h1, _⟩
  · cases e
  · cases e; exact ⟨hB, lt_of_heap h1⟩
theorem IRow.keep {S : Nat → Prop} {w w' : World} {B : Nat} {v : Value} {R : List Nat} (h : IRow w B v R) (t : Turns S w w') (hn : ∀ k, inRow v k → ¬ S k) : IRow w' B v R := by
  rcases h with h | ⟨g, c, n, h1, h2, h3, h4, cs, h5, h6, h7⟩
  · exact .inl h
  · exact .inr ⟨g, c, n, h1, h2, h3, h4, cs, t.heap h5 (hn g ⟨n, c, h1⟩), h6, h7⟩
theorem IRow.at {w : World} {B : Nat} {v : Value} {R : List Nat} (h : IRow w B v R) : IntsAt w v R := by
  rcases h with ⟨rfl, rfl⟩ | ⟨g, c, n, rfl, rfl, _, _, cs, h1, _, h3⟩
  · exact ⟨none, 0, rfl, fun k x hx => by simp at hx⟩
  · refine ⟨_, c, rfl, fun k x hx => ⟨g, 0, rfl, ?_⟩⟩
    have hk := (List.getElem?_eq_some_iff.1 hx).1
    rw [Nat.zero_add, cell_of_row w g k cs 3 (0, 0) h1, h3 k (by simpa [intCells] using hk)]
    simp [intCells, hx]
theorem IRow.len {w : World} {B : Nat} {v : Value} {R : List Nat} (h : IRow w B v R) : ∃ a c, v = .slice a R.length c := by
  rcases h with ⟨rfl, rfl⟩ | ⟨g, c, n, rfl, rfl, _⟩
  · exact ⟨none, 0, rfl⟩
  · exact ⟨_, _, rfl⟩
theorem append_int (w : World) (B : Nat) (v : Value) (R : List Nat) (h : IRow w B v R) (hB : B ≤ w.heap.size) (hlen : R.length ≤ 1000000000) (x : Nat) :
    ∃ (g' n' c' : Nat) (w' : World), (∀ ty, (Builtin.append_ #[47, 47] ty #[v, .slice (some ⟨w.heap.size, 0, none⟩) 1 1]).run Try.prog (w.alloc (.cells #[.int .i64 (x : Nat)] 3)) = .ok (.slice (some ⟨g', 0, none⟩) n' c') w') ∧ IRow w' B (.slice (some ⟨g', 0, none⟩) n' c') (R ++ [x]) ∧ Turns (inRow v) w w' ∧ Below B w w' ∧ (inRow v g' ∨ w.heap.size ≤ g') := by
  have b0 := (Below.refl w.heap.size w).alloc (Nat.le_refl _) (.cells #[.int .i64 (x : Nat)] 3)
  have hg := heap_alloc_new w (.cells #[.int .i64 (x : Nat)] 3)
  have h1 := h.keep (Turns.of_below b0 (fun _ => False)) (fun _ _ x => x)
  have hsz : (w.alloc (.cells #[.int .i64 (x : Nat)] 3)).heap.size = w.heap.size + 1 := by simp
  generalize w.alloc (.cells #[.int .i64 (x : Nat)] 3) = w0 at *
  have hcell : ∀ j, w0.cell? ⟨w.heap.size, j, none⟩ = (#[.int .i64 (x : Nat)] : Array Value)[j]? := fun j => cell_of_row w0 _ j _ 3 (0, 0) hg
  have hsrc : Src Try.prog Try.t3.size 47 (.slice (some ⟨w.heap.size, 0, none⟩) 1 1) 1 [.int .i64 (x : Nat)] w0 := Src.ofSlice w0 Try.underlying47 ⟨w.heap.size, 0, none⟩ 1 1 _ (by rw [t3_size]; rfl) (fun j u hu => by
    rw [Go.WideShapes.add_plain, Nat.zero_add, hcell j]
    simpa using hu) (fun u hu => by
    simp only [List.mem_cons, List.not_mem_nil, or_false] at hu
    subst hu; rfl)
  obtain ⟨base, sLen, sCap, rfl, hsl, hbase⟩ : ∃ (base : Option Addr) (sLen sCap : Nat), v = .slice base sLen sCap ∧ sLen = R.length ∧ ((base = none ∧ sLen = 0 ∧ sCap = 0 ∧ 0 < 1) ∨ ∃ g, base = some ⟨g, 0, none⟩ ∧ B ≤ g ∧ sLen ≤ sCap ∧ RowC w0 g 3 (sCap * Try.t3.size) (intCells R)) := by
    rcases h1 with ⟨rfl, rfl⟩ | ⟨g, c, n, rfl, rfl, h3, h4, h5⟩
    · exact ⟨none, 0, 0, rfl, rfl, .inl ⟨rfl, rfl, rfl, by omega⟩⟩
    · exact ⟨_, _, _, rfl, rfl, .inr ⟨g, rfl, h4, h3, by rw [t3_size, Nat.mul_one]; exact h5⟩⟩
  obtain ⟨g', cp, w', hr, hg', hrow, hb, hcp, hin, hnew, hkeep⟩ := append_gen2 (P := Try.prog) w0 B 47 3 Try.t3 _ Try.underlying47 t3_info t3_zero rfl base sLen sCap (intCells R) (by rw [t3_size, hsl]; simp [intCells]) _ 1 _ hsrc (by omega) hbase (by rw [t3_bytes]; omega) (by omega)
  refine ⟨g', _, cp, w', hr, .inr ⟨g', cp, _, rfl, by simp [hsl], hcp, hg', ?_⟩, ?_, (b0.mono hB).trans hb, ?_⟩
  · rw [t3_size, Nat.mul_one] at hrow
    rw [show intCells (R ++ [x]) = intCells R ++ [.int .i64 (x : Nat)] by simp [intCells]]
    exact hrow
  · refine (Turns.of_below b0 _).trans ⟨hb.os, hb.tape, hb.output, hb.size, fun k hk hn => hkeep k hk fun e => hn ⟨sLen, sCap, by rw [e]⟩⟩
  · rcases Nat.lt_or_ge sCap (sLen + 1) with h1 | h1
    · exact .inr (by have := hnew h1; omega)
    · exact .inl ⟨sLen, sCap, by rw [(hin h1).1]⟩
end Go.Proofs.Ytolaaodhnhdadaa
