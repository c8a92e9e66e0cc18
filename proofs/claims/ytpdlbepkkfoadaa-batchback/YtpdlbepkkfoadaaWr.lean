/-
  A row of writes of one's own, and what append makes of it.
-/
import Derived.Test.YtpdlbepkkfoadaaRp
namespace Go.Proofs.Ytpdlbepkkfoadaa
open Go.RowKit
set_option maxRecDepth 100000
set_option maxHeartbeats 1000000
theorem info24' : Try.prog.info? 24 = some Try.t24 := by kernel_rfl
theorem sz24 : Try.t24.size = 3 := by kernel_rfl
theorem bytes24 : Try.t24.bytes = 56 := by kernel_rfl
theorem zero24 : Try.t24.zero = some (.agg #[.int .i64 0, .slice none 0 0, .slice none 0 0]) := by kernel_rfl
/-- A write, and where its bytes lie. -/
structure WA where
  x : Wr
  ka : Option Addr
  kc : Nat
  va : Option Addr
  vc : Nat
def WA.cells (a : WA) : List Value := [.int .i64 a.x.1, .slice a.ka a.x.2.1.length a.kc, .slice a.va a.x.2.2.length a.vc]
def cellsWA (l : List WA) : List Value := (l.map WA.cells).flatten
theorem cellsWA_length (l : List WA) : (cellsWA l).length = l.length * 3 := by
  induction l with
  | nil => rfl
  | cons a l ih =>
    unfold cellsWA at ih ⊢
    simp only [List.map_cons, List.flatten_cons, List.length_append, List.length_cons, ih]
    simp only [WA.cells, List.length_cons, List.length_nil]
    omega
theorem cellsWA_snoc (l : List WA) (a : WA) : cellsWA (l ++ [a]) = cellsWA l ++ a.cells := by simp [cellsWA]
/-- Its bytes lie there, in none of those blocks. -/
structure WA.ok (w : World) (S : Nat → Prop) (a : WA) : Prop where
  key : Bytes w (.slice a.ka a.x.2.1.length a.kc) a.x.2.1
  val : Bytes w (.slice a.va a.x.2.2.length a.vc) a.x.2.2
  nk : ∀ q, a.ka = some q → 0 < a.x.2.1.length → ¬ S q.block
  nv : ∀ q, a.va = some q → 0 < a.x.2.2.length → ¬ S q.block
theorem Bytes.turns' {S : Nat → Prop} {w w' : World} {a : Option Addr} {n c : Nat} {bs : List (BitVec 8)} (h : Bytes w (.slice a n c) bs) (ht : Turns S w w') (hS : ∀ q, a = some q → 0 < n → ¬ S q.block) : Bytes w' (.slice a n c) bs := by
  have hl := h.len
  obtain ⟨a', c', e, hc⟩ := h
  cases e
  refine ⟨a, c, rfl, fun k hk => ?_⟩
  obtain ⟨b, off, rfl, hcell⟩ := hc k hk
  exact ⟨b, off, rfl, ht.cell hcell (hS ⟨b, off, none⟩ rfl (by omega))⟩
theorem Bytes.lt {w : World} {a : Option Addr} {n c : Nat} {bs : List (BitVec 8)} (h : Bytes w (.slice a n c) bs) (q : Addr) (e : a = some q) (h0 : 0 < n) : q.block < w.heap.size := by
  have hl := h.len
  obtain ⟨b, off, e'⟩ := h.addr h0
  rw [e] at e'
  cases e'
  subst e
  have := h.at 0 (by omega)
  exact block_lt_of_cell this
theorem WA.ok.turns {S S' : Nat → Prop} {w w' : World} {a : WA} (h : a.ok w S) (ht : Turns S' w w') (hs : ∀ k, k < w.heap.size → S' k → S k) : a.ok w' S :=
  ⟨h.key.turns' ht (fun q e h0 s => h.nk q e h0 (hs _ (h.key.lt q e h0) s)), h.val.turns' ht (fun q e h0 s => h.nv q e h0 (hs _ (h.val.lt q e h0) s)), h.nk, h.nv⟩
theorem WA.ok.set {S S' : Nat → Prop} {w : World} {a : WA} (h : a.ok w S) (hs : ∀ k, k < w.heap.size → S' k → S k) : a.ok w S' :=
  ⟨h.key, h.val, fun q e h0 s => h.nk q e h0 (hs _ (h.key.lt q e h0) s), fun q e h0 s => h.nv q e h0 (hs _ (h.val.lt q e h0) s)⟩
/-- The blocks that a reading of writes turns: the reader's, and the row's. -/
def used (r : Nat) (base : Option Addr) (k : Nat) : Prop := k ≤ r ∨ base = some ⟨k, 0, none⟩
/-- A row of writes, behind a reader. -/
structure WRow (w : World) (r : Nat) (base : Option Addr) (n c : Nat) (l : List WA) : Prop where
  len : n = l.length
  row : (base = none ∧ n = 0 ∧ c = 0) ∨ ∃ g, base = some ⟨g, 0, none⟩ ∧ r < g ∧ n ≤ c ∧ RowC w g 24 (c * 3) (cellsWA l)
  ok : ∀ a ∈ l, a.ok w (used r base)
theorem WRow.turns {S : Nat → Prop} {w w' : World} {r : Nat} {base : Option Addr} {n c : Nat} {l : List WA} (h : WRow w r base n c l) (ht : Turns S w w') (hS : ∀ k, S k → k ≤ r) : WRow w' r base n c l :=
  ⟨h.len, h.row.imp id (fun ⟨g, e, hg, hc, hr⟩ => ⟨g, e, hg, hc, hr.turns ht (fun s => by have := hS g s; omega)⟩), fun a ha => (h.ok a ha).turns ht (fun k _ e => .inl (hS k e))⟩
theorem WRow.fresh {w w' : World} {r : Nat} {base : Option Addr} {n c : Nat} {l : List WA} (h : WRow w r base n c l) (hb : Below w.heap.size w w') : WRow w' r base n c l :=
  h.turns (Turns.of_below hb (fun _ => False)) (fun _ x => x.elim)
theorem append_write (w : World) (r : Nat) (base : Option Addr) (n c : Nat) (l : List WA) (a : WA) (h : WRow w r base n c l) (ha : a.ok w (used r base)) (hr : r < w.heap.size) (hn : n ≤ 1000000) :
    ∃ g' c' w', (∀ ty, (Builtin.append_ #[29, 29] ty #[.slice base n c, .slice (some ⟨w.heap.size, 0, none⟩) 1 1]).run Try.prog (w.alloc (.cells #[.int .i64 a.x.1, .slice a.ka a.x.2.1.length a.kc, .slice a.va a.x.2.2.length a.vc] 24)) = .ok (.slice (some ⟨g', 0, none⟩) (n + 1) c') w') ∧
      WRow w' r (some ⟨g', 0, none⟩) (n + 1) c' (l ++ [a]) ∧ Turns (fun k => base = some ⟨k, 0, none⟩) w w' := by
  have hw0 : Turns (fun _ => False) w (w.alloc (.cells #[.int .i64 a.x.1, .slice a.ka a.x.2.1.length a.kc, .slice a.va a.x.2.2.length a.vc] 24)) := (Turns.refl _ w).alloc _
  have hnew := heap_alloc_new w (.cells #[.int .i64 a.x.1, .slice a.ka a.x.2.1.length a.kc, .slice a.va a.x.2.2.length a.vc] 24)
  have hsz := World.size_alloc w (.cells #[.int .i64 a.x.1, .slice a.ka a.x.2.1.length a.kc, .slice a.va a.x.2.2.length a.vc] 24)
  generalize w.alloc (.cells #[.int .i64 a.x.1, .slice a.ka a.x.2.1.length a.kc, .slice a.va a.x.2.2.length a.vc] 24) = w0 at *
  have hsrc : Src Try.prog Try.t24.size 29 (.slice (some ⟨w.heap.size, 0, none⟩) 1 1) 1 a.cells w0 := by
    refine Src.ofSlice w0 Try.underlying29 _ 1 1 _ (by rw [sz24]; rfl) (fun j u hu => ?_) (fun u hu => ?_)
    · rw [Go.WideShapes.add_plain, Nat.zero_add, cell_of_row w0 _ j _ 24 (0, 0) hnew]
      have hj : j < 3 := by
        have := (List.getElem?_eq_some_iff.1 hu).1
        exact this
      match j, hj with
      | 0, _ => exact hu
      | 1, _ => exact hu
      | 2, _ => exact hu
    · simp only [WA.cells, List.mem_cons, List.not_mem_nil, or_false] at hu
      rcases hu with rfl | rfl | rfl <;> rfl
  have hbase : (base = none ∧ n = 0 ∧ c = 0 ∧ 0 < 1) ∨ ∃ g, base = some ⟨g, 0, none⟩ ∧ r + 1 ≤ g ∧ n ≤ c ∧ RowC w0 g 24 (c * Try.t24.size) (cellsWA l) := by
    rcases h.row with ⟨e1, e2, e3⟩ | ⟨g, e, hg, hc, hrow⟩
    · exact .inl ⟨e1, e2, e3, by decide⟩
    · exact .inr ⟨g, e, hg, hc, by rw [sz24]; exact hrow.turns hw0 (fun x => x)⟩
  obtain ⟨g', c', w', hrun, hg', hrow', hb', hc', hin, hout, hkeep⟩ := append_gen2 (P := Try.prog) w0 (r + 1) 29 24 Try.t24 _ Try.underlying29 info24' zero24 (by rw [sz24]; rfl) base n c (cellsWA l) (by rw [cellsWA_length, sz24, h.len]) _ 1 a.cells hsrc (by omega) hbase (by rw [bytes24]; omega) (by omega)
  rw [sz24, ← cellsWA_snoc] at hrow'
  have ht : Turns (fun k => base = some ⟨k, 0, none⟩) w w' := by
    refine ⟨hb'.os.trans hw0.os, hb'.tape.trans hw0.tape, hb'.output.trans hw0.output, Nat.le_trans hw0.size hb'.size, fun k hk hs => ?_⟩
    rw [hkeep k (by omega) hs]
    exact hw0.block k hk (fun x => x)
  refine ⟨g', c', w', hrun, ⟨by rw [List.length_append, h.len]; rfl, .inr ⟨g', rfl, hg', hc', hrow'⟩, fun b hb => ?_⟩, ht⟩
  have hold : b.ok w (used r base) := by
    rcases List.mem_append.1 hb with h1 | h1
    · exact h.ok b h1
    · obtain rfl : b = a := by simpa using h1
      exact ha
  refine ((hold.set (S' := fun k => used r base k ∨ used r (some ⟨g', 0, none⟩) k) (fun k hk s => ?_)).turns ht (fun k _ s => .inl (.inr s))).set (fun k _ s => .inr s)
  rcases s with s | s | s
  · exact s
  · exact .inl s
  · have hk' : k = g' := by cases s; rfl
    subst hk'
    rcases Nat.lt_or_ge c (n + 1) with hlt | hge
    · have := hout hlt
      omega
    · exact .inr (hin hge).1
theorem flat3 : ∀ (l : List WA) (k j : Nat) (hk : k < l.length), j < 3 → (cellsWA l)[k * 3 + j]? = (l[k]).cells[j]?
  | a :: r, 0, j, _, hj => by
    show (a.cells ++ cellsWA r)[0 * 3 + j]? = a.cells[j]?
    rw [Nat.zero_mul, Nat.zero_add, List.getElem?_append_left hj]
  | a :: r, k + 1, j, hk, hj => by
    show (a.cells ++ cellsWA r)[(k + 1) * 3 + j]? = (r[k]'(by simpa using hk)).cells[j]?
    rw [List.getElem?_append_right (by show 3 ≤ _; omega), ← flat3 r k j (by simpa using hk) hj]
    congr 1
    show (k + 1) * 3 + j - 3 = k * 3 + j
    omega
/-- The writes of such a row. -/
theorem WRow.wrs {w : World} {r : Nat} {base : Option Addr} {n c : Nat} {l : List WA} (h : WRow w r base n c l) : Wrs w (.slice base n c) (l.map WA.x) := by
  refine ⟨base, c, by rw [List.length_map, h.len], fun k x hx => ?_⟩
  have hk : k < l.length := by
    rcases Nat.lt_or_ge k l.length with hh | hh
    · exact hh
    · rw [List.getElem?_eq_none (by simpa using hh)] at hx; cases hx
  obtain rfl : (l[k]).x = x := by simpa [hk] using hx
  have hlen := h.len
  rcases h.row with ⟨_, e2, _⟩ | ⟨g, rfl, hg, hc, cs, h1, h2, h3⟩
  · omega
  · have ok := h.ok l[k] (List.getElem_mem hk)
    have hcell : ∀ j, j < 3 → w.cell? ⟨g, k * 3 + j, none⟩ = (l[k]).cells[j]? := by
      intro j hj
      have hlt : k * 3 + j < (cellsWA l).length := by rw [cellsWA_length]; omega
      rw [cell_of_row w g _ cs 24 (0, 0) h1, h3 _ hlt]
      exact flat3 l k j hk hj
    refine ⟨g, 0, rfl, ?_, (l[k]).ka, (l[k]).kc, (l[k]).va, (l[k]).vc, ?_, ?_, ok.key, ok.val⟩
    · rw [Nat.zero_add]; exact hcell 0 (by decide)
    · rw [Nat.zero_add]; exact hcell 1 (by decide)
    · rw [Nat.zero_add]; exact hcell 2 (by decide)
end Go.Proofs.Ytpdlbepkkfoadaa
