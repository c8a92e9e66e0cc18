/-
  What becomes of a block's reader when one of its rows grows.
-/
import Derived.Test.YtolaaodhnhdadaaC3
namespace Go.Proofs.Ytolaaodhnhdadaa
open Go.RowKit
set_option maxRecDepth 100000
section
variable {w w6 : World} {q r : Nat} {p : List (BitVec 8)} {i : Nat} {e : Int} {kv ev rv : Value} {key : List (BitVec 8)} {R : List Tow} {ms : List Nat}
theorem setBox (h : w6.heap[q]? = some (.cells #[.pointer (some ⟨r, 0, none⟩), kv, ev, rv] 75 (0, 0))) (v : Value) :
    (w6.setCell ⟨q, 1, none⟩ v).heap[q]? = some (.cells #[.pointer (some ⟨r, 0, none⟩), v, ev, rv] 75 (0, 0)) ∧ (w6.setCell ⟨q, 2, none⟩ v).heap[q]? = some (.cells #[.pointer (some ⟨r, 0, none⟩), kv, v, rv] 75 (0, 0)) ∧ (w6.setCell ⟨q, 3, none⟩ v).heap[q]? = some (.cells #[.pointer (some ⟨r, 0, none⟩), kv, ev, v] 75 (0, 0)) := by
  have s1 := heap_setCell_same _ q 1 _ 75 v h
  have s2 := heap_setCell_same _ q 2 _ 75 v h
  have s3 := heap_setCell_same _ q 3 _ 75 v h
  simp only [List.setIfInBounds_toArray, List.set_cons_succ, List.set_cons_zero] at s1 s2 s3
  exact ⟨s1, s2, s3⟩
theorem tq (w6 : World) (q o : Nat) (v : Value) : Turns (fun j => j = q) w6 (w6.setCell ⟨q, o, none⟩ v) := turns_cell (Turns.refl _ _) o v
theorem RS.keep {S : Nat → Prop} {w' : World} (h : RS w q r p i e kv ev rv key R ms) (t : Turns S w w') (hq : ¬ S q) (hr : ∀ k, S k → r < k) (hk : ∀ k, inRow kv k ∨ inRow ev k ∨ inRow rv k → ¬ S k) (hb : ∀ x, x ∈ R → ∀ b, x.bytesIn b → ¬ S b) : RS w' q r p i e kv ev rv key R ms where
  box := t.heap h.box hq
  rd := h.rd.keep t hr
  rq := h.rq
  kr := h.kr.keep t fun k x => hk k (.inl x)
  er := h.er.keep t fun k x => hk k (.inr (.inl x))
  ir := h.ir.keep t fun k x => hk k (.inr (.inr x))
  sh := h.sh.keep t hb
  ke := h.ke
  kI := h.kI
  eI := h.eI
  ap := h.ap
/-- Nothing of it lies in new memory. -/
theorem RS.rows (h : RS w q r p i e kv ev rv key R ms) : (∀ k, inRow kv k ∨ inRow ev k ∨ inRow rv k → k < w.heap.size) ∧ ∀ x, x ∈ R → ∀ b, x.bytesIn b → b < w.heap.size :=
  ⟨fun k hk => by
    rcases hk with x | x | x
    · exact (h.kr.row x).2
    · exact (h.er.row x).2
    · exact (h.ir.row x).2, fun x hx b hb => ((h.sh x hx).2.2 b hb).2⟩
/-- The key's row has grown. -/
theorem RS.setKey (h : RS w q r p i e kv ev rv key R ms) {kv' : Value} {key' : List (BitVec 8)} (hk : KRow w6 (q + 1) kv' key') (t : Turns (inRow kv) w w6) (hin : ∀ k, inRow kv' k → inRow kv k ∨ w.heap.size ≤ k) :
    RS (w6.setCell ⟨q, 1, none⟩ kv') q r p i e kv' ev rv key' R ms where
  box := (setBox (t.heap h.box fun x => by have := (h.kr.row x).1; omega) kv').1
  rd := (h.rd.keep t fun k hk => by have := (h.kr.row hk).1; have := h.rq; omega).keep (tq w6 q 1 kv') fun k hk => by have := h.rq; omega
  rq := h.rq
  kr := hk.keep (tq w6 q 1 kv') fun k hk' e => by have := (hk.row hk').1; omega
  er := (h.er.keep t fun k hk' x => h.ke k x hk').keep (tq w6 q 1 kv') fun k hk' e => by have := (h.er.row hk').1; omega
  ir := (h.ir.keep t fun k hk' x => h.kI k x hk').keep (tq w6 q 1 kv') fun k hk' e => by have := (h.ir.row hk').1; omega
  sh := (h.sh.keep t fun x hx b hb => (h.ap x hx b hb).1).keep (tq w6 q 1 kv') fun x hx b hb e => by have := ((h.sh x hx).2.2 b hb).1; omega
  ke := fun k hk' x => by
    rcases hin k hk' with y | y
    · exact h.ke k y x
    · have := (h.er.row x).2; omega
  kI := fun k hk' x => by
    rcases hin k hk' with y | y
    · exact h.kI k y x
    · have := (h.ir.row x).2; omega
  eI := h.eI
  ap := fun x hx b hb => ⟨fun y => by
    rcases hin b y with y | y
    · exact (h.ap x hx b hb).1 y
    · have := ((h.sh x hx).2.2 b hb).2; omega, (h.ap x hx b hb).2⟩
/-- An entry more. -/
theorem RS.setEnts (h : RS w q r p i e kv ev rv key R ms) {ev' : Value} {y : Tow} (hk : ERow w6 (q + 1) ev' (R ++ [y])) (t : Turns (inRow ev) w w6) (hin : ∀ k, inRow ev' k → inRow ev k ∨ w.heap.size ≤ k) (hy : Bytes w y.kv y.e.key ∧ Bytes w y.vv y.e.val ∧ ∀ b, y.bytesIn b → q + 1 ≤ b ∧ b < w.heap.size) (hya : ∀ b, y.bytesIn b → ¬ inRow kv b ∧ ¬ inRow ev b ∧ ¬ inRow rv b) :
    RS (w6.setCell ⟨q, 2, none⟩ ev') q r p i e kv ev' rv key (R ++ [y]) ms := by
  have hall : ∀ x, x ∈ R ++ [y] → (Bytes w x.kv x.e.key ∧ Bytes w x.vv x.e.val ∧ ∀ b, x.bytesIn b → q + 1 ≤ b ∧ b < w.heap.size) ∧ ∀ b, x.bytesIn b → ¬ inRow kv b ∧ ¬ inRow ev b ∧ ¬ inRow rv b := fun x hx => by
    rcases List.mem_append.1 hx with hx | hx
    · exact ⟨h.sh x hx, h.ap x hx⟩
    · obtain rfl : x = y := by simpa using hx
      exact ⟨hy, hya⟩
  exact {
    box := (setBox (t.heap h.box fun x => by have := (h.er.row x).1; omega) ev').2.1
    rd := (h.rd.keep t fun k hk => by have := (h.er.row hk).1; have := h.rq; omega).keep (tq w6 q 2 ev') fun k hk => by have := h.rq; omega
    rq := h.rq
    kr := (h.kr.keep t fun k hk' x => h.ke k hk' x).keep (tq w6 q 2 ev') fun k hk' e => by have := (h.kr.row hk').1; omega
    er := hk.keep (tq w6 q 2 ev') fun k hk' e => by have := (hk.row hk').1; omega
    ir := (h.ir.keep t fun k hk' x => h.eI k x hk').keep (tq w6 q 2 ev') fun k hk' e => by have := (h.ir.row hk').1; omega
    sh := (Shown.keep (w := w) (fun x hx => (hall x hx).1) t fun x hx b hb => ((hall x hx).2 b hb).2.1).keep (tq w6 q 2 ev') fun x hx b hb e => by have := ((hall x hx).1.2.2 b hb).1; omega
    ke := fun k hk' x => by
      rcases hin k x with y | y
      · exact h.ke k hk' y
      · have := (h.kr.row hk').2; omega
    kI := h.kI
    eI := fun k hk' x => by
      rcases hin k hk' with y | y
      · exact h.eI k y x
      · have := (h.ir.row x).2; omega
    ap := fun x hx b hb => ⟨((hall x hx).2 b hb).1, fun y => by
      rcases hin b y with y | y
      · exact ((hall x hx).2 b hb).2.1 y
      · have := ((hall x hx).1.2.2 b hb).2; omega, ((hall x hx).2 b hb).2.2⟩ }
/-- A place more. -/
theorem RS.setInts (h : RS w q r p i e kv ev rv key R ms) {rv' : Value} {ms' : List Nat} (hk : IRow w6 (q + 1) rv' ms') (t : Turns (inRow rv) w w6) (hin : ∀ k, inRow rv' k → inRow rv k ∨ w.heap.size ≤ k) :
    RS (w6.setCell ⟨q, 3, none⟩ rv') q r p i e kv ev rv' key R ms' where
  box := (setBox (t.heap h.box fun x => by have := (h.ir.row x).1; omega) rv').2.2
  rd := (h.rd.keep t fun k hk => by have := (h.ir.row hk).1; have := h.rq; omega).keep (tq w6 q 3 rv') fun k hk => by have := h.rq; omega
  rq := h.rq
  kr := (h.kr.keep t fun k hk' x => h.kI k hk' x).keep (tq w6 q 3 rv') fun k hk' e => by have := (h.kr.row hk').1; omega
  er := (h.er.keep t fun k hk' x => h.eI k hk' x).keep (tq w6 q 3 rv') fun k hk' e => by have := (h.er.row hk').1; omega
  ir := hk.keep (tq w6 q 3 rv') fun k hk' e => by have := (hk.row hk').1; omega
  sh := (h.sh.keep t fun x hx b hb => (h.ap x hx b hb).2.2).keep (tq w6 q 3 rv') fun x hx b hb e => by have := ((h.sh x hx).2.2 b hb).1; omega
  ke := h.ke
  kI := fun k hk' x => by
    rcases hin k x with y | y
    · exact h.kI k hk' y
    · have := (h.kr.row hk').2; omega
  eI := fun k hk' x => by
    rcases hin k x with y | y
    · exact h.eI k hk' y
    · have := (h.er.row hk').2; omega
  ap := fun x hx b hb => ⟨(h.ap x hx b hb).1, (h.ap x hx b hb).2.1, fun y => by
    rcases hin b y with y | y
    · exact (h.ap x hx b hb).2.2 y
    · have := ((h.sh x hx).2.2 b hb).2; omega⟩
/-- The entries that were gathered, as they lie. -/
theorem ents_of {B : Nat} {a : Option Addr} {n c : Nat} (h : ERow w B (.slice a n c) R) (hs : Shown w B R) : Ents w a R := by
  intro k x hx
  have hxm : x ∈ R := List.mem_iff_getElem?.2 ⟨k, hx⟩
  refine ⟨?_, (hs x hxm).1, (hs x hxm).2.1⟩
  rcases h with ⟨rfl, _⟩ | ⟨g, c', n', e, hn, _, _, cs, h1, _, h3⟩
  · simp at hx
  · cases e
    have hk := (List.getElem?_eq_some_iff.1 hx).1
    refine ⟨g, 0, rfl, fun j u hu => ?_⟩
    have hj : j < 4 := (List.getElem?_eq_some_iff.1 hu).1
    rw [cell_of_row w g _ cs 28 (0, 0) h1, h3 _ (by rw [entCells_length]; omega)]
    obtain ⟨e0, e1, e2, e3⟩ := entCells_at R k x hx
    have hc : j = 0 ∨ j = 1 ∨ j = 2 ∨ j = 3 := by omega
    rcases hc with rfl | rfl | rfl | rfl
    · rw [show 0 + k * 4 + 0 = k * 4 by omega, e0]; exact hu
    · rw [show 0 + k * 4 + 1 = k * 4 + 1 by omega, e1]; exact hu
    · rw [show 0 + k * 4 + 2 = k * 4 + 2 by omega, e2]; exact hu
    · rw [show 0 + k * 4 + 3 = k * 4 + 3 by omega, e3]; exact hu
end
end Go.Proofs.Ytolaaodhnhdadaa
