/-
  Row: all frames of a row of bytes, and where it is torn.
-/
import Derived.Test.YtpighnknldhigaaRead
namespace Go.Proofs.Ytpighnknldhigaa
open Go.RowKit

abbrev Frm : Type := BitVec 8 × List (BitVec 8)

/-- A frame's two cells, its body in a row of its own. -/
def Bod (w : World) (f : Frm) (p : Value × Value) : Prop := p.1 = .int .u8 f.1.toNat ∧ ∃ g c : Nat, p.2 = .slice (some ⟨g, 0, none⟩) f.2.length c ∧ f.2.length ≤ c ∧ RowB w g c f.2
theorem Bod.below {w w' : World} {f : Frm} {p : Value × Value} (h : Bod w f p) (hb : Below w.heap.size w w') : Bod w' f p := by
  obtain ⟨h1, g, c, h2, h4, h3⟩ := h
  exact ⟨h1, g, c, h2, h4, RowC.below h3 hb⟩
theorem Bod.bytes {w : World} {f : Frm} {p : Value × Value} (h : Bod w f p) : Bytes w p.2 f.2 := by
  obtain ⟨h1, g, c, h2, h4, h3⟩ := h
  rw [h2]
  exact RowB.bytes h3 rfl
/-- A body does not lie in a list of frames. -/
theorem Bod.other {w w' : World} {f : Frm} {p : Value × Value} {G : Nat} (h : Bod w f p) (hG : ∀ b, b ≠ G → b < w.heap.size → w'.heap[b]? = w.heap[b]?) (hn : ∀ cs, w.heap[G]? ≠ some (.cells cs 5 (0, 0))) : Bod w' f p := by
  obtain ⟨h1, g, c, h2, h4, cs, h3, h5, h6⟩ := h
  refine ⟨h1, g, c, h2, h4, cs, ?_, h5, h6⟩
  rw [hG g (fun e => hn cs (e ▸ h3)) (lt_of_heap h3), h3]
/-- The cells of frames. -/
def cellsF (ps : List (Value × Value)) : List Value := ps.flatMap fun p => [p.1, p.2]
theorem cellsF_length (ps : List (Value × Value)) : (cellsF ps).length = ps.length * 2 := by
  induction ps with
  | nil => rfl
  | cons p r ih => simp only [cellsF, List.flatMap_cons, List.length_append, List.length_cons, List.length_nil] at ih ⊢; omega
theorem cellsF_snoc (ps : List (Value × Value)) (p : Value × Value) : cellsF (ps ++ [p]) = cellsF ps ++ [p.1, p.2] := by simp [cellsF]
theorem cellsF_at (ps : List (Value × Value)) (k : Nat) (p : Value × Value) (h : ps[k]? = some p) : (cellsF ps)[2 * k]? = some p.1 ∧ (cellsF ps)[2 * k + 1]? = some p.2 := by
  induction ps generalizing k with
  | nil => simp at h
  | cons q r ih =>
    cases k with
    | zero =>
      obtain rfl : q = p := by simpa using h
      exact ⟨rfl, rfl⟩
    | succ k =>
      have := ih k (by simpa using h)
      rw [show 2 * (k + 1) = 2 * k + 2 by omega, show 2 * k + 2 + 1 = 2 * k + 1 + 2 by omega]
      exact this

theorem t27_size : Try.t27.size = 2 := by kernel_rfl
theorem t27_bytes : Try.t27.bytes = 32 := by kernel_rfl
theorem t27_info : Try.prog.info? 27 = some Try.t27 := by kernel_rfl
theorem t27_zero : Try.t27.zero = some (.agg #[.int .u8 0, .slice none 0 0]) := by kernel_rfl

/-- Frames in a list of one's own, or none. -/
def Lst (w : World) (B : Nat) (v : Value) (fs : List Frm) : Prop :=
  (fs = [] ∧ v = .slice none 0 0) ∨ ∃ (g c : Nat) (ps : List (Value × Value)), v = .slice (some ⟨g, 0, none⟩) fs.length c ∧ B ≤ g ∧ fs.length ≤ c ∧ ps.length = fs.length ∧ RowC w g 27 (c * 2) (cellsF ps) ∧ ∀ (k : Nat) (f : Frm) (p : Value × Value), fs[k]? = some f → ps[k]? = some p → Bod w f p
theorem Lst.below {w w' : World} {B : Nat} {v : Value} {fs : List Frm} (h : Lst w B v fs) (hb : Below w.heap.size w w') : Lst w' B v fs := by
  rcases h with h | ⟨g, c, ps, h1, h2, h2', h3, h4, h5⟩
  · exact .inl h
  · exact .inr ⟨g, c, ps, h1, h2, h2', h3, h4.below hb, fun k f p hf hp => (h5 k f p hf hp).below hb⟩

theorem heap_setCells_ne (g : Nat) : ∀ (vs : List Value) (o : Nat) (w : World) (b : Nat), b ≠ g → (w.setCells g o vs).heap[b]? = w.heap[b]?
  | [], _, _, _, _ => rfl
  | v :: r, o, w, b, h => by
    rw [show w.setCells g o (v :: r) = (w.setCell ⟨g, o, none⟩ v).setCells g (o + 1) r from rfl, heap_setCells_ne g r (o + 1) _ b h, heap_setCell_other _ _ _ _ (by exact h)]

theorem snoc_at {α : Type} (l : List α) (x : α) (k : Nat) (y : α) (h : (l ++ [x])[k]? = some y) : (k = l.length ∧ y = x) ∨ l[k]? = some y := by
  rcases Nat.lt_trichotomy k l.length with hk | hk | hk
  · right
    rwa [List.getElem?_append_left hk] at h
  · left
    subst hk
    simp at h
    exact ⟨rfl, h.symm⟩
  · rw [List.getElem?_eq_none (by simp; omega)] at h
    cases h

/-- One frame that is appended to such a list. -/
theorem append_frame (w : World) (B : Nat) (hB : B ≤ w.heap.size) (v : Value) (fs : List Frm) (h : Lst w B v fs) (hlen : fs.length ≤ 1000000000) (f : Frm) (p : Value × Value) (hp : Bod w f p) (a : Addr) (c : Nat) (ha : ∀ j u, [p.1, p.2][j]? = some u → w.cell? (a.add j) = some u) :
    ∃ v' w', (∀ ty, (Builtin.append_ #[29, 29] ty #[v, .slice (some a) 1 c]).run Try.prog w = .ok v' w') ∧ Lst w' B v' (fs ++ [f]) ∧ Below B w w' := by
  have hsrc : Src Try.prog Try.t27.size 29 (.slice (some a) 1 c) 1 [p.1, p.2] w := Src.ofSlice w Try.underlying29 a 1 c _ (by rw [t27_size]; rfl) ha (fun u hu => by
    obtain ⟨h1, g, c', h2, _⟩ := hp
    simp only [List.mem_cons, List.not_mem_nil, or_false] at hu
    rcases hu with rfl | rfl
    · rw [h1]; rfl
    · rw [h2]; rfl)
  rcases h with ⟨rfl, rfl⟩ | ⟨g, c0, ps, rfl, hg, hc, hps, ⟨cs, r1, r2, r3⟩, hbod⟩
  · have hr := fun ty => run_append_grow_src (P := Try.prog) w 29 29 ty 27 Try.t27 _ Try.underlying29 t27_info t27_zero none 0 0 [] rfl _ 1 _ hsrc (by omega) (by omega) (growslice_fits (by omega) (by rw [t27_bytes]; omega))
    have hge := grownCap_ge w 1 0 27
    rw [show 0 + 1 = 1 from rfl] at hr
    generalize grownCap w 1 0 27 = cp at *
    have hb : Below w.heap.size w (w.drew.alloc (.cells (([] ++ [p.1, p.2]).toArray ++ Builtin.zeroCells (Value.agg #[.int .u8 0, .slice none 0 0]).cells (cp - 1)) 27)) := (Below.refl _ _).drew.alloc (Nat.le_refl _) _
    refine ⟨_, _, hr, .inr ⟨w.heap.size, cp, [p], rfl, hB, hge, rfl, ⟨_, heap_alloc_new w.drew _, ?_, fun k hk => ?_⟩, fun k f' p' hf hp' => ?_⟩, (Below.refl _ _).drew.alloc hB _⟩
    · rw [Array.size_append, size_zeroCells]
      show cp * 2 ≤ 2 + (cp - 1) * 2
      omega
    · rw [Array.getElem?_append_left (by simpa [cellsF] using hk)]
      simp [cellsF]
    · rcases snoc_at [] f k f' hf with ⟨hk, rfl⟩ | h
      · obtain rfl : k = 0 := hk
        obtain rfl : p = p' := by simpa using hp'
        exact hp.below hb
      · simp at h
  · have hold : (cellsF ps).length = fs.length * Try.t27.size := by rw [cellsF_length, t27_size, hps]
    by_cases hroom : fs.length + 1 ≤ c0
    · have hr := fun ty => run_append_room_src (P := Try.prog) w 29 29 ty 27 Try.t27 Try.underlying29 t27_info g 0 fs.length c0 _ 1 _ hsrc hroom
        (fun j hj => by
          have hj' : j < 2 := hj
          rw [t27_size, cell_of_row w g _ cs 27 (0, 0) r1, Array.getElem?_eq_getElem (by omega)]; rfl)
        (fun j hj => frozen_of_row w g _ cs 27 r1)
      rw [t27_size, Nat.zero_add] at hr
      obtain ⟨cs', k1, k2, k3⟩ := heap_setCells g 27 [p.1, p.2] (fs.length * 2) w cs r1
      have hoth : ∀ b, b ≠ g → b < w.heap.size → (w.setCells g (fs.length * 2) [p.1, p.2]).heap[b]? = w.heap[b]? := fun b hb _ => heap_setCells_ne g _ _ w b hb
      have hn5 : ∀ cs, w.heap[g]? ≠ some (.cells cs 5 (0, 0)) := fun x hx => by rw [r1] at hx; cases hx
      refine ⟨_, _, hr, .inr ⟨g, c0, ps ++ [p], by rw [List.length_append]; rfl, hg, by rw [List.length_append]; exact hroom, by rw [List.length_append, List.length_append, hps]; rfl, ⟨cs', k1, by omega, fun k hk => ?_⟩, fun k f' p' hf hp' => ?_⟩, below_cells hg _ _ (Below.refl _ _)⟩
      · rw [cellsF_snoc] at hk ⊢
        rw [List.length_append, cellsF_length] at hk
        have hk' : k < ps.length * 2 + 2 := hk
        rw [k3 k (by omega), List.getElem?_append, cellsF_length]
        by_cases hk2 : k < ps.length * 2
        · rw [if_neg (by omega), if_pos hk2, r3 k (by rw [cellsF_length]; exact hk2)]
        · rw [if_pos (by show fs.length * 2 ≤ k ∧ k < fs.length * 2 + 2; omega), if_neg hk2, hps]
      · rcases snoc_at fs f k f' hf with ⟨hk, rfl⟩ | h
        · rcases snoc_at ps p k p' hp' with ⟨_, rfl⟩ | h'
          · exact hp.other hoth hn5
          · rw [List.getElem?_eq_none (by omega)] at h'; cases h'
        · rcases snoc_at ps p k p' hp' with ⟨hk, _⟩ | h'
          · rw [List.getElem?_eq_none (by omega)] at h; cases h
          · exact (hbod k f' p' h h').other hoth hn5
    · have hcap : c0 < fs.length + 1 := by omega
      have hold' : (Builtin.firstCells Try.t27.size fs.length (.slice (some ⟨g, 0, none⟩) fs.length c0)).run Try.prog w.drew = .ok (cellsF ps).toArray w.drew := by
        refine run_firstCells_some (P := Try.prog) w.drew _ _ _ _ _ (cellsF ps) hold (fun j u hu => ?_)
        have hj : j < (cellsF ps).length := by
          rcases Nat.lt_or_ge j (cellsF ps).length with h | h
          · exact h
          · rw [List.getElem?_eq_none h] at hu; cases hu
        rw [Go.WideShapes.add_plain, Nat.zero_add, cell_of_row w.drew g j cs 27 (0, 0) r1, r3 j hj, hu]
      have hr := fun ty => run_append_grow_src (P := Try.prog) w 29 29 ty 27 Try.t27 _ Try.underlying29 t27_info t27_zero (some ⟨g, 0, none⟩) fs.length c0 (cellsF ps) hold' _ 1 _ hsrc hcap (by omega) (growslice_fits hcap (by rw [t27_bytes]; omega))
      have hge := grownCap_ge w (fs.length + 1) c0 27
      generalize grownCap w (fs.length + 1) c0 27 = cp at *
      have hb : Below w.heap.size w (w.drew.alloc (.cells ((cellsF ps ++ [p.1, p.2]).toArray ++ Builtin.zeroCells (Value.agg #[.int .u8 0, .slice none 0 0]).cells (cp - (fs.length + 1))) 27)) := (Below.refl _ _).drew.alloc (Nat.le_refl _) _
      refine ⟨_, _, hr, .inr ⟨w.heap.size, cp, ps ++ [p], by rw [List.length_append]; rfl, hB, by rw [List.length_append]; exact hge, by rw [List.length_append, List.length_append, hps]; rfl, ⟨_, heap_alloc_new w.drew _, ?_, fun k hk => ?_⟩, fun k f' p' hf hp' => ?_⟩, (Below.refl _ _).drew.alloc hB _⟩
      · rw [Array.size_append, size_zeroCells, List.size_toArray, List.length_append, cellsF_length]
        show cp * 2 ≤ ps.length * 2 + 2 + (cp - (fs.length + 1)) * 2
        omega
      · rw [cellsF_snoc] at hk ⊢
        rw [Array.getElem?_append_left (by simpa using hk)]
        simp
      · rcases snoc_at fs f k f' hf with ⟨hk, rfl⟩ | h
        · rcases snoc_at ps p k p' hp' with ⟨_, rfl⟩ | h'
          · exact hp.below hb
          · rw [List.getElem?_eq_none (by omega)] at h'; cases h'
        · rcases snoc_at ps p k p' hp' with ⟨hk, _⟩ | h'
          · rw [List.getElem?_eq_none (by omega)] at h; cases h
          · exact (hbod k f' p' h h').below hb
end Go.Proofs.Ytpighnknldhigaa
