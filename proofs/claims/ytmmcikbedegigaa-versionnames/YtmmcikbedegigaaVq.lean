/-
  One list of one's own is laid anew; drops.
-/
import Derived.Test.YtmmcikbedegigaaVp
namespace Go.Proofs.Ytmmcikbedegigaa
open Go.RowKit
set_option maxRecDepth 100000
set_option maxHeartbeats 4000000
/-- The blocks of lists of one's own. -/
def own (G : Nat) (L : List Lv) (k : Nat) : Prop := k = G ∨ ∃ (j : Nat) (x : Lv), L[j]? = some x ∧ x.a = some ⟨k, 0, none⟩
theorem DR.own_ge {w : World} {B G N : Nat} {L : List Lv} (h : DR w B G N L) {k : Nat} (hk : own G L k) : B ≤ k := by
  rcases hk with rfl | ⟨j, x, hx, e⟩
  · exact h.hG
  · rcases h.rows j x hx with ⟨e3, _⟩ | ⟨g2, e3, h5, _⟩
    · rw [e3] at e; cases e
    · rw [e3] at e; cases e; exact h5
theorem DR.own_lt {w : World} {B G N : Nat} {L : List Lv} (h : DR w B G N L) {k : Nat} (hk : own G L k) : k < w.heap.size := by
  rcases hk with rfl | ⟨j, x, hx, e⟩
  · obtain ⟨cs, h1, _⟩ := h.head; exact lt_of_heap h1
  · exact h.lt hx e
theorem DR.not_own {w : World} {B G N p : Nat} {L : List Lv} (h : DR w B G N L) {cs : Array Value} {ty : TypeId} {z : Nat × Nat} (hp : w.heap[p]? = some (.cells cs ty z)) (h1 : ty ≠ 50) (h2 : ty ≠ 37) : ¬ own G L p := by
  rintro (rfl | ⟨j, x, hx, e⟩)
  · obtain ⟨cs', e1, _⟩ := h.head; rw [e1] at hp; cases hp; exact h1 rfl
  · exact (h.rows j x hx).ne hp h2 p e rfl
theorem DR.not_map {w : World} {B G N M n s : Nat} {L : List Lv} {m : Nat → Option Int} (h : DR w B G N L) (hm : MapN w M n m s) : ¬ own G L M := by
  rintro (rfl | ⟨j, x, hx, e⟩)
  · obtain ⟨cs', e1, _⟩ := h.head; exact hm.notCells e1
  · rcases h.rows j x hx with ⟨e3, _⟩ | ⟨g2, e3, h5, _, cs2, h6, _⟩
    · rw [e3] at e; cases e
    · rw [e3] at e; cases e; exact hm.notCells h6
/-- One list is laid anew. -/
theorem DR.redo {w w' : World} {B G N k : Nat} {L : List Lv} (h : DR w B G N L) {x : Lv} (hx : L[k]? = some x) (hN : k < N) (t : Turns (fun j => x.a = some ⟨j, 0, none⟩) w w') {a' : Option Addr} {c' : Nat} {R' : List Tf} (hr : RowOk w' B a' c' R')
    (hap : ∀ g, a' = some ⟨g, 0, none⟩ → x.a = some ⟨g, 0, none⟩ ∨ w.heap.size ≤ g) (hf : ∀ y ∈ R', FT w' B y) : DR (w'.setCell ⟨G, k, none⟩ (.slice a' R'.length c')) B G N (L.set k ⟨a', c', R'⟩) := by
  have hkl := (List.getElem?_eq_some_iff.1 hx).1
  obtain ⟨cs, h1, h2, h3⟩ := h.head
  have hG' : w'.heap[G]? = some (.cells cs 50 (0, 0)) := t.heap h1 (fun e => (h.rows k x hx).ne h1 (by decide) G e rfl)
  have tk := (Tick.refl hG').set k (.slice a' R'.length c')
  have u := Turns.of_tick tk
  have hat : ∀ (j : Nat) (y : Lv), (L.set k ⟨a', c', R'⟩)[j]? = some y → (j ≠ k ∧ L[j]? = some y) ∨ (j = k ∧ y = ⟨a', c', R'⟩) := fun j y hy => by
    by_cases hj : j = k
    · subst hj; rw [List.getElem?_set_self hkl] at hy; exact .inr ⟨rfl, (Option.some.inj hy).symm⟩
    · rw [List.getElem?_set_ne (by omega)] at hy; exact .inl ⟨hj, hy⟩
  have hrow : ∀ (j : Nat) (y : Lv), j ≠ k → L[j]? = some y → RowOk w' B y.a y.c y.l := fun j y hj hy => (h.rows j y hy).keep t fun g e e2 => h.apart j k y x hj hy hx g e e2
  have hrG : ∀ {a c R}, RowOk w' B a c R → RowOk (w'.setCell ⟨G, k, none⟩ (.slice a' R'.length c')) B a c R := fun hr => hr.keep u fun g e e2 => hr.ne hG' (by decide) g e e2
  have hft : ∀ y, FT w' B y → FT (w'.setCell ⟨G, k, none⟩ (.slice a' R'.length c')) B y := fun y hy => hy.keep u fun j e _ cs' z' e2 => by subst e; rw [hG'] at e2; cases e2
  refine ⟨⟨_, tk.1, by simpa using h2, fun j y hy => ?_⟩, h.hG, fun j y hy => ?_, fun i j y z hij hy hz g e => ?_, fun y hy z hz => ?_⟩
  · rcases hat j y hy with ⟨hj, hy⟩ | ⟨rfl, rfl⟩
    · rw [Array.getElem?_setIfInBounds_ne (by omega)]; exact h3 j y hy
    · rw [Array.getElem?_setIfInBounds_self_of_lt (by omega)]
  · rcases hat j y hy with ⟨hj, hy⟩ | ⟨rfl, rfl⟩
    · exact hrG (hrow j y hj hy)
    · exact hrG hr
  · rcases hat i y hy with ⟨hi, hy1⟩ | ⟨rfl, rfl⟩
    · rcases hat j z hz with ⟨hj, hz1⟩ | ⟨rfl, rfl⟩
      · exact h.apart i j y z hij hy1 hz1 g e
      · intro e2
        rcases hap g e2 with e3 | e3
        · exact h.apart i j y x hi hy1 hx g e e3
        · have := h.lt hy1 e; omega
    · rcases hat j z hz with ⟨hj, hz1⟩ | ⟨rfl, rfl⟩
      · intro e2
        rcases hap g e with e3 | e3
        · exact h.apart j i z x hj hz1 hx g e2 e3
        · have := h.lt hz1 e2; omega
      · omega
  · obtain ⟨j, hj⟩ := List.getElem?_of_mem hy
    rcases hat j y hj with ⟨hj2, hy1⟩ | ⟨rfl, rfl⟩
    · refine hft z ((h.files y (List.mem_of_getElem? hy1) z hz).keep t fun j e _ cs' z' e2 => ?_)
      exact (h.rows k x hx).ne e2 (by decide) j e rfl
    · exact hft z (hf z hz)
/-- Drops in memory. -/
def Drops (w : World) (a : Option Addr) (D : List (Int × Nat)) : Prop := ∀ (k : Nat) (d : Int × Nat), D[k]? = some d → d.2 < 18446744073709551616 ∧ ∃ b off, a = some ⟨b, off, none⟩ ∧ w.cell? ⟨b, off + k * 2, none⟩ = some (.int .i64 d.1) ∧ w.cell? ⟨b, off + k * 2 + 1, none⟩ = some (.int .u64 (d.2 : Nat))
theorem Drops.quiet {w w' : World} {a : Option Addr} {D : List (Int × Nat)} (h : Drops w a D) (t : Turns (fun _ => False) w w') : Drops w' a D := fun k d hd => by
  obtain ⟨h0, b, off, e, c1, c2⟩ := h k d hd
  exact ⟨h0, b, off, e, t.cell c1 (fun x => x), t.cell c2 (fun x => x)⟩
def dropsP : (Nat → Option Int) → List (Int × Nat) → Option (Nat → Option Int)
  | m, [] => some m
  | m, d :: r => if m d.2 = some d.1 then dropsP (upd m d.2 none) r else none
theorem dropsP_drop {m m' : Nat → Option Int} {D : List (Int × Nat)} {k : Nat} {d : Int × Nat} (hd : D[k]? = some d) (h : dropsP m D = dropsP m' (D.drop k)) : dropsP m D = if m' d.2 = some d.1 then dropsP (upd m' d.2 none) (D.drop (k + 1)) else none := by
  have hk := (List.getElem?_eq_some_iff.1 hd).1
  rw [h, List.drop_eq_getElem_cons hk]
  have e : D[k] = d := by rw [List.getElem?_eq_getElem hk] at hd; exact Option.some.inj hd
  rw [e]
  rfl
def keepF (m : Nat → Option Int) (f : Fl) : Bool := (m f.no).isSome
theorem fls_filter (m : Nat → Option Int) (l : List Tf) : fls (l.filter (keepT m)) = (fls l).filter (keepF m) := by
  unfold fls
  rw [List.filter_map]
  rfl
end Go.Proofs.Ytmmcikbedegigaa
