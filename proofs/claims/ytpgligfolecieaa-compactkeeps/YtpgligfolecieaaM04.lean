import Derived.Test.YtpgligfolecieaaM02
/-
  Rows of entries of one's own.
-/
namespace Go.Proofs.Ytpgligfolecieaa
open Go.RowKit
set_option maxRecDepth 100000
theorem t29_size : Try.t29.size = 4 := by kernel_rfl
theorem t29_bytes : Try.t29.bytes = 64 := by kernel_rfl
theorem t29_info : Try.prog.info? 29 = some Try.t29 := by kernel_rfl
theorem t29_zero : Try.t29.zero = some (.agg #[.slice none 0 0, .int .u64 0, .int .i64 0, .slice none 0 0]) := by kernel_rfl
def entCells (R : List Tow) : List Value := R.flatMap fun x => [x.kv, .int .u64 (x.e.seq : Nat), .int .i64 x.e.kind, x.vv]
theorem entCells_length (R : List Tow) : (entCells R).length = R.length * 4 := by
  induction R with
  | nil => rfl
  | cons x r ih => simp only [entCells, List.flatMap_cons, List.length_append, List.length_cons, List.length_nil] at ih ⊢; omega
theorem entCells_snoc (R : List Tow) (x : Tow) : entCells (R ++ [x]) = entCells R ++ [x.kv, .int .u64 (x.e.seq : Nat), .int .i64 x.e.kind, x.vv] := by
  simp [entCells]
theorem entCells_at (R : List Tow) (k : Nat) (x : Tow) (h : R[k]? = some x) : (entCells R)[k * 4]? = some x.kv ∧ (entCells R)[k * 4 + 1]? = some (.int .u64 (x.e.seq : Nat)) ∧ (entCells R)[k * 4 + 2]? = some (.int .i64 x.e.kind) ∧ (entCells R)[k * 4 + 3]? = some x.vv := by
  induction R generalizing k with
  | nil => simp at h
  | cons y r ih =>
    cases k with
    | zero =>
      obtain rfl : y = x := by simpa using h
      exact ⟨rfl, rfl, rfl, rfl⟩
    | succ k =>
      have := ih k (by simpa using h)
      have e : ∀ j, (entCells (y :: r))[(k + 1) * 4 + j]? = (entCells r)[k * 4 + j]? := fun j => by
        show ([y.kv, .int .u64 (y.e.seq : Nat), .int .i64 y.e.kind, y.vv] ++ entCells r)[(k + 1) * 4 + j]? = _
        rw [List.getElem?_append_right (by simp; omega)]
        congr 1
        simp
        omega
      exact ⟨(e 0).trans this.1, by rw [e 1]; exact this.2.1, by rw [e 2]; exact this.2.2.1, by rw [e 3]; exact this.2.2.2⟩
/-- Each entry's bytes, behind B. -/
def Shown (w : World) (B : Nat) (R : List Tow) : Prop := ∀ x, x ∈ R → Bytes w x.kv x.e.key ∧ Bytes w x.vv x.e.val ∧ ∀ q, x.bytesIn q → B ≤ q ∧ q < w.heap.size
def inRow (v : Value) (k : Nat) : Prop := ∃ n c, v = .slice (some ⟨k, 0, none⟩) n c
def ERow (w : World) (B : Nat) (v : Value) (R : List Tow) : Prop :=
  (R = [] ∧ v = .slice none 0 0) ∨ ∃ g c n : Nat, v = .slice (some ⟨g, 0, none⟩) n c ∧ n = R.length ∧ n ≤ c ∧ B ≤ g ∧ RowC w g 29 (c * 4) (entCells R)
theorem ERow.row {w : World} {B : Nat} {v : Value} {R : List Tow} (h : ERow w B v R) {k : Nat} (hk : inRow v k) : B ≤ k ∧ k < w.heap.size := by
  obtain ⟨n', c', e⟩ := hk
  rcases h with ⟨_, rfl⟩ | ⟨g, c, n, rfl, _, _, hB, cs, h1, _⟩
  · cases e
  · cases e; exact ⟨hB, lt_of_heap h1⟩
theorem ERow.keep {S : Nat → Prop} {w w' : World} {B : Nat} {v : Value} {R : List Tow} (h : ERow w B v R) (t : Turns S w w') (hn : ∀ k, inRow v k → ¬ S k) : ERow w' B v R := by
  rcases h with h | ⟨g, c, n, h1, h2, h3, h4, cs, h5, h6, h7⟩
  · exact .inl h
  · exact .inr ⟨g, c, n, h1, h2, h3, h4, cs, t.heap h5 (hn g ⟨n, c, h1⟩), h6, h7⟩
theorem ERow.len {w : World} {B : Nat} {v : Value} {R : List Tow} (h : ERow w B v R) : ∃ a c, v = .slice a R.length c := by
  rcases h with ⟨rfl, rfl⟩ | ⟨g, c, n, rfl, rfl, _⟩
  · exact ⟨none, 0, rfl⟩
  · exact ⟨_, _, rfl⟩
theorem Shown.keep {S : Nat → Prop} {w w' : World} {B : Nat} {R : List Tow} (h : Shown w B R) (t : Turns S w w') (hS : ∀ x, x ∈ R → ∀ q, x.bytesIn q → ¬ S q) : Shown w' B R := fun x hx =>
  ⟨bytes_keep (h x hx).1 t fun a e => hS x hx _ (.inl ⟨a, e, rfl⟩), bytes_keep (h x hx).2.1 t fun a e => hS x hx _ (.inr ⟨a, e, rfl⟩), fun q hq => ⟨((h x hx).2.2 q hq).1, Nat.lt_of_lt_of_le ((h x hx).2.2 q hq).2 t.size⟩⟩
theorem append_ent (w : World) (B : Nat) (v : Value) (R : List Tow) (h : ERow w B v R) (hB : B ≤ w.heap.size) (hlen : R.length ≤ 1000000000) (x : Tow) (g c : Nat) (hg : w.heap[g]? = some (.cells #[x.kv, .int .u64 (x.e.seq : Nat), .int .i64 x.e.kind, x.vv] 29 (0, 0))) :
    ∃ (g' n' c' : Nat) (w' : World), (∀ ty, (Builtin.append_ #[31, 31] ty #[v, .slice (some ⟨g, 0, none⟩) 1 c]).run Try.prog w = .ok (.slice (some ⟨g', 0, none⟩) n' c') w') ∧ ERow w' B (.slice (some ⟨g', 0, none⟩) n' c') (R ++ [x]) ∧ Turns (inRow v) w w' ∧ Below B w w' ∧ (inRow v g' ∨ g' = w.heap.size) := by
  have hcell : ∀ j, w.cell? ⟨g, j, none⟩ = (#[x.kv, .int .u64 (x.e.seq : Nat), .int .i64 x.e.kind, x.vv] : Array Value)[j]? := fun j => cell_of_row w g j _ 29 (0, 0) hg
  have hsrc : Src Try.prog Try.t29.size 31 (.slice (some ⟨g, 0, none⟩) 1 c) 1 [x.kv, .int .u64 (x.e.seq : Nat), .int .i64 x.e.kind, x.vv] w := Src.ofSlice w Try.underlying31 ⟨g, 0, none⟩ 1 c _ (by rw [t29_size]; rfl) (fun j u hu => by
    rw [Go.WideShapes.add_plain, Nat.zero_add, hcell j]
    simpa using hu) (fun u hu => by
    simp only [List.mem_cons, List.not_mem_nil, or_false] at hu
    rcases hu with rfl | rfl | rfl | rfl <;> rfl)
  obtain ⟨base, sLen, sCap, rfl, hsl, hbase⟩ : ∃ (base : Option Addr) (sLen sCap : Nat), v = .slice base sLen sCap ∧ sLen = R.length ∧ ((base = none ∧ sLen = 0 ∧ sCap = 0 ∧ 0 < 1) ∨ ∃ g, base = some ⟨g, 0, none⟩ ∧ B ≤ g ∧ sLen ≤ sCap ∧ RowC w g 29 (sCap * Try.t29.size) (entCells R)) := by
    rcases h with ⟨rfl, rfl⟩ | ⟨g, c, n, rfl, rfl, h3, h4, h5⟩
    · exact ⟨none, 0, 0, rfl, rfl, .inl ⟨rfl, rfl, rfl, by omega⟩⟩
    · exact ⟨_, _, _, rfl, rfl, .inr ⟨g, rfl, h4, h3, by rw [t29_size]; exact h5⟩⟩
  obtain ⟨g', cp, w', hr, hg', hrow, hb, hcp, hin, hnew, hkeep⟩ := append_gen2 (P := Try.prog) w B 31 29 Try.t29 _ Try.underlying31 t29_info t29_zero rfl base sLen sCap (entCells R) (by rw [t29_size, hsl, entCells_length]) _ 1 _ hsrc hB hbase (by rw [t29_bytes]; omega) (by omega)
  refine ⟨g', _, cp, w', hr, .inr ⟨g', cp, _, rfl, by simp [hsl], hcp, hg', ?_⟩, ⟨hb.os, hb.tape, hb.output, hb.size, fun k hk hn => hkeep k hk fun e => hn ⟨sLen, sCap, by rw [e]⟩⟩, hb, ?_⟩
  · rw [t29_size] at hrow
    rw [entCells_snoc]
    exact hrow
  · rcases Nat.lt_or_ge sCap (sLen + 1) with h1 | h1
    · exact .inr (hnew h1)
    · exact .inl ⟨sLen, sCap, by rw [(hin h1).1]⟩
end Go.Proofs.Ytpgligfolecieaa

/-
  Heaps, as plain mathematics.
-/
namespace Go.Proofs.Ytpgligfolecieaa
namespace Hp
section
variable {α : Type} (lt : α → α → Prop)
def Heap (f : Nat → α) (n : Nat) : Prop := ∀ k, 0 < k → k < n → ¬ lt (f k) (f ((k - 1) / 2))
/-- A heap, but at j and above it. -/
def HeapUp (f : Nat → α) (n j : Nat) : Prop := (∀ k, 0 < k → k < n → k ≠ j → ¬ lt (f k) (f ((k - 1) / 2))) ∧ (∀ k, 0 < k → k < n → (k - 1) / 2 = j → 0 < j → ¬ lt (f k) (f ((j - 1) / 2)))
/-- A heap, but at i and below it. -/
def HeapDown (f : Nat → α) (n i : Nat) : Prop := (∀ k, 0 < k → k < n → (k - 1) / 2 ≠ i → ¬ lt (f k) (f ((k - 1) / 2))) ∧ (∀ k, 0 < k → k < n → (k - 1) / 2 = i → 0 < i → ¬ lt (f k) (f ((i - 1) / 2)))
def swapF (f : Nat → α) (i j : Nat) : Nat → α := fun k => if k = i then f j else if k = j then f i else f k
variable {lt}
theorem swapF_i (f : Nat → α) (i j : Nat) : swapF f i j i = f j := by simp [swapF]
theorem swapF_j (f : Nat → α) (i j : Nat) : swapF f i j j = f i := by
  unfold swapF
  split
  · next e => rw [e]
  · simp
theorem swapF_o (f : Nat → α) {i j k : Nat} (h1 : k ≠ i) (h2 : k ≠ j) : swapF f i j k = f k := by simp [swapF, h1, h2]
variable {f : Nat → α} {n i j : Nat} (asym : ∀ x y, lt x y → ¬ lt y x) (tr : ∀ x y z, ¬ lt y x → ¬ lt z y → ¬ lt z x)
theorem up_done (h : HeapUp lt f n j) (hj : j = 0 ∨ ¬ lt (f j) (f ((j - 1) / 2))) : Heap lt f n := fun k h0 hk => by
  by_cases e : k = j
  · subst e
    rcases hj with hj | hj
    · omega
    · exact hj
  · exact h.1 k h0 hk e
include asym tr in
theorem up_step (h : HeapUp lt f n j) (h0 : 0 < j) (hj : j < n) (hl : lt (f j) (f ((j - 1) / 2))) : HeapUp lt (swapF f ((j - 1) / 2) j) n ((j - 1) / 2) := by
  have hp : (j - 1) / 2 < j := by omega
  refine ⟨fun k k0 kn hk => ?_, fun k k0 kn hk p0 => ?_⟩
  · by_cases e : k = j
    · subst e
      rw [swapF_j, swapF_i]
      exact asym _ _ hl
    · rw [swapF_o f hk e]
      by_cases e1 : (k - 1) / 2 = (j - 1) / 2
      · rw [e1, swapF_i]
        have := h.1 k k0 kn e
        rw [e1] at this
        exact tr _ _ _ (asym _ _ hl) this
      · by_cases e2 : (k - 1) / 2 = j
        · rw [e2, swapF_j]
          exact h.2 k k0 kn e2 h0
        · rw [swapF_o f e1 e2]
          exact h.1 k k0 kn e
  · rw [swapF_o f (k := ((j - 1) / 2 - 1) / 2) (by omega) (by omega)]
    have hpp := h.1 ((j - 1) / 2) p0 (by omega) (by omega)
    by_cases e : k = j
    · subst e
      rw [swapF_j]
      exact hpp
    · rw [swapF_o f (by omega) e]
      have := h.1 k k0 kn e
      rw [hk] at this
      exact tr _ _ _ hpp this
theorem down_done1 (h : HeapDown lt f n i) (hn : n ≤ 2 * i + 1) : Heap lt f n := fun k h0 hk => h.1 k h0 hk (by omega)
include tr in
theorem down_done2 (h : HeapDown lt f n i) (hc : ∀ k, 0 < k → k < n → (k - 1) / 2 = i → ¬ lt (f k) (f j)) (hl : ¬ lt (f j) (f i)) : Heap lt f n := fun k h0 hk => by
  by_cases e : (k - 1) / 2 = i
  · rw [e]
    exact tr _ _ _ hl (hc k h0 hk e)
  · exact h.1 k h0 hk e
include asym in
theorem down_step (h : HeapDown lt f n i) (hj : (j - 1) / 2 = i) (j0 : 0 < j) (hjn : j < n) (hc : ∀ k, 0 < k → k < n → (k - 1) / 2 = i → ¬ lt (f k) (f j)) (hl : lt (f j) (f i)) : HeapDown lt (swapF f i j) n j := by
  refine ⟨fun k k0 kn hk => ?_, fun k k0 kn hk p0 => ?_⟩
  · by_cases e : (k - 1) / 2 = i
    · rw [e, swapF_i]
      by_cases e2 : k = j
      · subst e2
        rw [swapF_j]
        exact asym _ _ hl
      · rw [swapF_o f (by omega) e2]
        exact hc k k0 kn e
    · rw [swapF_o f e hk]
      by_cases e2 : k = i
      · subst e2
        rw [swapF_i]
        exact h.2 j j0 hjn hj k0
      · rw [swapF_o f e2 (by omega)]
        exact h.1 k k0 kn e
  · rw [hj, swapF_i, swapF_o f (by omega) (by omega)]
    have := h.1 k k0 kn (by omega)
    rw [hk] at this
    exact this
include tr in
theorem heap_min (irr : ∀ x, ¬ lt x x) (h : Heap lt f n) : ∀ k, k < n → ¬ lt (f k) (f 0) := fun k => by
  induction k using Nat.strongRecOn with
  | ind k ih =>
    intro hk
    by_cases e : k = 0
    · subst e
      exact irr _
    · exact tr _ _ _ (ih ((k - 1) / 2) (by omega) (by omega)) (h k (by omega) hk)
/-- Another first: below it all is as it was. -/
theorem heap_top {f' : Nat → α} (h : Heap lt f n) (hf : ∀ k, 0 < k → k < n → f' k = f k) : HeapDown lt f' n 0 :=
  ⟨fun k k0 kn hk => by rw [hf k k0 kn, hf _ (by omega) (by omega)]; exact h k k0 kn, fun k _ _ _ h0 => by omega⟩
theorem heap_less {m : Nat} (h : Heap lt f n) (hm : m ≤ n) : Heap lt f m := fun k k0 km => h k k0 (by omega)
/-- One more at the end. -/
theorem heap_end {f' : Nat → α} (h : Heap lt f n) (hf : ∀ k, k < n → f' k = f k) : HeapUp lt f' (n + 1) n :=
  ⟨fun k k0 kn hk => by rw [hf k (by omega), hf _ (by omega)]; exact h k k0 (by omega), fun k k0 kn hk h0 => by omega⟩
end
/-! Lists -/
section
variable {α : Type}
def swapL (L : List α) (i j : Nat) (x y : α) : List α := (L.set i y).set j x
theorem swapL_length (L : List α) (i j : Nat) (x y : α) : (swapL L i j x y).length = L.length := by simp [swapL]
theorem swapL_get (L : List α) (i j k : Nat) (x y : α) (hi : L[i]? = some x) (hj : L[j]? = some y) : (swapL L i j x y)[k]? = if k = i then L[j]? else if k = j then L[i]? else L[k]? := by
  obtain ⟨h1, rfl⟩ := List.getElem?_eq_some_iff.1 hi
  obtain ⟨h2, rfl⟩ := List.getElem?_eq_some_iff.1 hj
  unfold swapL
  rw [List.getElem?_set, List.getElem?_set]
  by_cases e1 : j = k
  · subst e1
    by_cases e2 : j = i
    · subst e2; simp [h1]
    · simp [h2, e2, h1]
  · by_cases e2 : i = k
    · subst e2; simp [e1, h1, h2]
    · simp [e1, e2, Ne.symm e1, Ne.symm e2]
theorem swapL_perm (L : List α) (i j : Nat) (x y : α) (hi : L[i]? = some x) (hj : L[j]? = some y) : (swapL L i j x y).Perm L := by
  obtain ⟨h1, rfl⟩ := List.getElem?_eq_some_iff.1 hi
  obtain ⟨h2, rfl⟩ := List.getElem?_eq_some_iff.1 hj
  exact List.set_set_perm h1 h2
theorem swapL_drop (L : List α) (i j n : Nat) (x y : α) (hi : i < n) (hj : j < n) : (swapL L i j x y).drop n = L.drop n := by
  unfold swapL
  rw [List.drop_set_of_lt hj, List.drop_set_of_lt hi]
end
end Hp
end Go.Proofs.Ytpgligfolecieaa

/-
  Copies of bytes, and of entries, with the types of their blocks.
-/
namespace Go.Proofs.Ytpgligfolecieaa
open Go.RowKit
set_option maxRecDepth 100000
set_option maxHeartbeats 4000000
theorem cloneT_any (a : Option Addr) (n c : Nat) (bs : List (BitVec 8)) (w : World) (h : Bytes w (.slice a n c) bs) (hn : n ≤ 1000000) :
    Calls Try.prog 50 #[.slice a n c] w fun e w' => ∃ a' c', e = .returned (.slice a' n c') ∧ Bytes w' (.slice a' n c') bs ∧ (∀ x, a' = some x → (w.heap.size ≤ x.block ∧ x.block < w'.heap.size) ∧ ∃ cs, w'.heap[x.block]? = some (.cells cs 5 (0, 0))) ∧ Below w.heap.size w w' := by
  have hl := h.len
  cases a with
  | none =>
    obtain rfl : n = 0 := by
      rcases Nat.eq_zero_or_pos n with h0 | h0
      · exact h0
      · obtain ⟨_, _, e⟩ := h.addr h0; cases e
    obtain rfl : bs = [] := List.eq_nil_of_length_eq_zero hl.symm
    clear h hl
    have he : (binOp .eql 26 (.slice none 0 c) (.slice none 0 0)).run Try.prog w = .ok (.bool true) w := nil_eql none 0 c w
    go_enter Try.func50, Try.ntmps50
    go_wp2_with fail
    go_ret
    exact ⟨none, 0, rfl, Bytes.empty _, fun x e => (by cases e), Below.refl _ _⟩
  | some ad =>
    have hb : Below w.heap.size w (w.alloc (.cells #[] 5)) := (Below.refl _ _).alloc (Nat.le_refl _) _
    obtain ⟨g, c2, w2, hr, hg, hrow, hb2, hc, _⟩ := append_bytes2 (w.alloc (.cells #[] 5)) w.heap.size (some ⟨w.heap.size, 0, none⟩) 0 0 [] rfl (.slice (some ad) n c) bs n hl (h.below hb) (by simp)
      (.inr ⟨_, rfl, Nat.le_refl _, Nat.le_refl _, #[], heap_alloc_new w _, Nat.le_refl _, fun k hk => by simp [cellsOf] at hk⟩) (by omega)
    rw [Nat.zero_add] at hr hc
    rw [List.nil_append] at hrow
    have HR := hide hr
    have HW := hide (RowB.bytes (c' := c2) hrow hl)
    have HB := hide (hb.trans hb2)
    have HG := hide (show ∃ cs, w2.heap[g]? = some (.cells cs 5 (0, 0)) by obtain ⟨cs, h1, _⟩ := hrow; exact ⟨cs, h1⟩)
    clear hr hrow hb hb2 h hl
    have he : (binOp .eql 26 (.slice (some ad) n c) (.slice none 0 0)).run Try.prog w = .ok (.bool false) w := nil_eql (some ad) n c w
    go_enter Try.func50, Try.ntmps50
    go_wp2_with (at_builtin; refine wpList_append_run rfl _ _ 26 rfl (.slice (some ⟨w.heap.size, 0, none⟩) 0 0) (.slice (some ad) n c) rfl rfl _ _ (HR.out _) ?_)
    go_ret
    exact ⟨_, c2, rfl, HW.out, fun x e => by cases e; exact ⟨⟨hg, lt_of_heap HG.out.choose_spec⟩, HG.out⟩, HB.out⟩
theorem cloneTE_any (ka va : Option Addr) (kn kc vn vc s : Nat) (k : Int) (key val : List (BitVec 8)) (w : World) (h1 : Bytes w (.slice ka kn kc) key) (h2 : Bytes w (.slice va vn vc) val) (l1 : kn ≤ 1000000) (l2 : vn ≤ 1000000) :
    Calls Try.prog 70 #[.agg #[.slice ka kn kc, .int .u64 s, .int .i64 k, .slice va vn vc]] w fun e w' => ∃ ka' kc' va' vc', e = .returned (.agg #[.slice ka' kn kc', .int .u64 s, .int .i64 k, .slice va' vn vc']) ∧ Bytes w' (.slice ka' kn kc') key ∧ Bytes w' (.slice va' vn vc') val ∧
      (∀ x, ka' = some x → (w.heap.size ≤ x.block ∧ x.block < w'.heap.size) ∧ ∃ cs, w'.heap[x.block]? = some (.cells cs 5 (0, 0))) ∧ (∀ x, va' = some x → (w.heap.size ≤ x.block ∧ x.block < w'.heap.size) ∧ ∃ cs, w'.heap[x.block]? = some (.cells cs 5 (0, 0))) ∧ Below w.heap.size w w' := by
  have ha : Turns (fun _ => False) w ((w.alloc (.cells #[.slice ka kn kc, .int .u64 s, .int .i64 k, .slice va vn vc] 29)).alloc (.cells #[.slice none 0 0, .int .u64 0, .int .i64 0, .slice none 0 0] 29)) := ((Turns.refl _ w).alloc _).alloc _
  have r0 := heap_keep ((Below.refl _ (w.alloc (.cells #[.slice ka kn kc, .int .u64 s, .int .i64 k, .slice va vn vc] 29))).alloc (Nat.le_refl _) (.cells #[.slice none 0 0, .int .u64 0, .int .i64 0, .slice none 0 0] 29)) (heap_alloc_new w (.cells #[.slice ka kn kc, .int .u64 s, .int .i64 k, .slice va vn vc] 29))
  have r1 := heap_alloc_new (w.alloc (.cells #[.slice ka kn kc, .int .u64 s, .int .i64 k, .slice va vn vc] 29)) (.cells #[.slice none 0 0, .int .u64 0, .int .i64 0, .slice none 0 0] 29)
  rw [show (w.alloc (.cells #[.slice ka kn kc, .int .u64 s, .int .i64 k, .slice va vn vc] 29)).heap.size = w.heap.size + 1 by simp] at r1
  have hsz : ((w.alloc (.cells #[.slice ka kn kc, .int .u64 s, .int .i64 k, .slice va vn vc] 29)).alloc (.cells #[.slice none 0 0, .int .u64 0, .int .i64 0, .slice none 0 0] 29)).heap.size = w.heap.size + 2 := by simp
  have HSZ := hide hsz
  have HA := hide ha
  have R0 := hide r0
  have R1 := hide r1
  have H1 := hide h1
  have H2 := hide h2
  clear ha r0 r1 h1 h2 hsz
  go_enter Try.func70, Try.ntmps70
  go_wp2_with fail
  generalize (w.alloc (.cells #[.slice ka kn kc, .int .u64 s, .int .i64 k, .slice va vn vc] 29)).alloc (.cells #[.slice none 0 0, .int .u64 0, .int .i64 0, .slice none 0 0] 29) = w0 at *
  generalize hg : w.heap.size = g at *
  have a0 : w0.cell? ⟨g, 0, none⟩ = some (.slice ka kn kc) := cell_of_row w0 g 0 _ 29 (0, 0) R0.out
  have a1 : w0.cell? ⟨g, 1, none⟩ = some (.int .u64 s) := cell_of_row w0 g 1 _ 29 (0, 0) R0.out
  have a2 : w0.cell? ⟨g, 2, none⟩ = some (.int .i64 k) := cell_of_row w0 g 2 _ 29 (0, 0) R0.out
  have a3 : w0.cell? ⟨g, 3, none⟩ = some (.slice va vn vc) := cell_of_row w0 g 3 _ 29 (0, 0) R0.out
  have C1 := hide (cloneT_any ka kn kc key w0.drew ((H1.out.quiet HA.out).quiet (Turns.refl _ w0).drew) l1)
  go_region_with (first
    | (go_at_call_of 50 (Value.slice ka kn kc); refine C1.out.mono ?_; rintro e w1 ⟨ka', kc', rfl, hk1, hk2, b1⟩; have t1 := (Turns.refl (fun _ => False) w0).drew.trans (Turns.of_below b1 (fun _ => False)); have a3 := t1.cell a3 (fun x => x); have T1 := hide t1; have HK1 := hide hk1; have HK2 := hide hk2; clear t1 hk1 hk2 b1)
    | (go_at_call_of 50 (Value.slice va vn vc); refine (cloneT_any va vn vc val w1 ((H2.out.quiet HA.out).quiet T1.out) l2).mono ?_; rintro e w2 ⟨va', vc', rfl, hv1, hv2, b2⟩; have t2 := T1.out.trans (Turns.of_below b2 (fun _ => False)); have r2 := t2.heap R0.out (fun x => x); have z0 := frozen_of_row w2 g 0 _ 29 r2; have z3 := frozen_of_row w2 g 3 _ 29 r2; have c0 := t2.cell a0 (fun x => x); have c1 := t2.cell a1 (fun x => x); have c2 := t2.cell a2 (fun x => x); have c3 := cell_of_row w2 g 3 _ 29 (0, 0) r2; have HV1 := hide hv1; have HV2 := hide hv2; have T2 := hide t2; have B2 := hide b2; have R2 := hide r2; clear t2 hv1 hv2 b2 r2))
  all_goals have r3 := T2.out.heap R1.out (fun x => x)
  all_goals have y0 := frozen_of_row w2 (g + 1) 0 _ 29 r3
  all_goals have y1 := frozen_of_row w2 (g + 1) 1 _ 29 r3
  all_goals have y2 := frozen_of_row w2 (g + 1) 2 _ 29 r3
  all_goals have y3 := frozen_of_row w2 (g + 1) 3 _ 29 r3
  all_goals have x0 := cell_of_row w2 (g + 1) 0 _ 29 (0, 0) r3
  all_goals have x1 := cell_of_row w2 (g + 1) 1 _ 29 (0, 0) r3
  all_goals have x2 := cell_of_row w2 (g + 1) 2 _ 29 (0, 0) r3
  all_goals have x3 := cell_of_row w2 (g + 1) 3 _ 29 (0, 0) r3
  all_goals clear r3
  all_goals go_wp2_with fail
  all_goals
    have k1 := (Tick.refl R2.out).set 0 (.slice ka' kn kc')
    have k2 := k1.set 3 (.slice va' vn vc')
    have r3 := (k2.2.2.1 (g + 1) (by omega)).trans (T2.out.heap R1.out (fun x => x))
    have k3 := (((((Tick.refl r3).set 0 (.slice ka' kn kc')).set 1 (.int .u64 s)).set 2 (.int .i64 k)).set 3 (.slice va' vn vc'))
    have u2 := Turns.of_tick k2
    have u3 := Turns.of_tick k3
    have hsz2 : w0.heap.size ≤ w2.heap.size := T2.out.size
    have hw0 := HSZ.out
    have hlast : Turns (fun _ => False) w _ := ((HA.out.trans T2.out).andThen u2 (fun j hj e => by omega)).andThen u3 (fun j hj e => by omega)
    refine bodyPost_ret (v := .agg #[.slice ka' kn kc', .int .u64 s, .int .i64 k, .slice va' vn vc']) ?_ rfl ?_
    · exact results_cell_row Try.results70 _ _ _ _ _ _ _ rfl k3.1 Try.underlying29 rfl info29
    · have hk : Bytes w2 (.slice ka' kn kc') key := HK1.out.below B2.out
      refine ⟨ka', kc', va', vc', rfl, ?_, ?_, fun x e => ?_, fun x e => ?_, hlast.below (by omega) (fun _ x => x.elim)⟩
      · refine (hk.turns u2 fun a n c e => ?_).turns u3 fun a n c e => ?_
        · cases e; have := (HK2.out _ rfl).1.1; show ¬ _ = g; have h9 : w0.heap.size ≤ a.block := this; omega
        · cases e; have := (HK2.out _ rfl).1.1; show ¬ _ = g + 1; have h9 : w0.heap.size ≤ a.block := this; omega
      · refine (HV1.out.turns u2 fun a n c e => ?_).turns u3 fun a n c e => ?_
        · cases e; have := (HV2.out _ rfl).1.1; have h8 := T1.out.size; show ¬ _ = g; omega
        · cases e; have := (HV2.out _ rfl).1.1; have h8 := T1.out.size; show ¬ _ = g + 1; omega
      · obtain ⟨h1, cs, hcs⟩ := HK2.out x e
        have h9 : w0.heap.size ≤ x.block := h1.1
        have h8 := B2.out.size
        have h7 := k2.2.1
        have h6 := k3.2.1
        exact ⟨by omega, cs, u3.heap (u2.heap ((Turns.of_below B2.out (fun _ => False)).heap hcs (fun x => x)) (by show ¬ x.block = g; omega)) (by show ¬ x.block = g + 1; omega)⟩
      · obtain ⟨h1, cs, hcs⟩ := HV2.out x e
        have h8 := T1.out.size
        have h7 := k2.2.1
        have h6 := k3.2.1
        exact ⟨by omega, cs, u3.heap (u2.heap hcs (by show ¬ x.block = g; omega)) (by show ¬ x.block = g + 1; omega)⟩
end Go.Proofs.Ytpgligfolecieaa
