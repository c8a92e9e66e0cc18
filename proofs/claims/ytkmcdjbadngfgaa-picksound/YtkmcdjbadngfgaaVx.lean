/-
  What an edit makes of a version, told by files alone.
-/
import Derived.Test.YtkmcdjbadngfgaaVv
namespace Go.Proofs.Ytkmcdjbadngfgaa
open Go.RowKit
set_option maxRecDepth 100000
set_option maxHeartbeats 4000000
theorem RowOk.mono {w : World} {B B' : Nat} {a : Option Addr} {c : Nat} {R : List Tf} (h : RowOk w B a c R) (hB : B' ≤ B) : RowOk w B' a c R := by
  rcases h with h | ⟨g, h1, h2, h3⟩
  · exact .inl h
  · exact .inr ⟨g, h1, Nat.le_trans hB h2, h3⟩
theorem RowOk.ne {w : World} {B : Nat} {a : Option Addr} {c : Nat} {R : List Tf} (h : RowOk w B a c R) {p : Nat} {cs : Array Value} {ty : TypeId} {z : Nat × Nat} (hp : w.heap[p]? = some (.cells cs ty z)) (h2 : ty ≠ 29) (g : Nat) (e : a = some ⟨g, 0, none⟩) : ¬ g = p := by
  intro e2
  subst e2
  rcases h with ⟨e3, _⟩ | ⟨g2, e3, _, _, cs2, h4, _⟩
  · rw [e3] at e; cases e
  · rw [e3] at e; cases e; rw [hp] at h4; cases h4; exact h2 rfl
def flL (L : List Lv) : List (List Fl) := L.map fun x => fls x.l
theorem flL_length (L : List Lv) : (flL L).length = L.length := by simp [flL]
def pairsF (LL : List (List Fl)) : List (Nat × Int) := LL.zipIdx.flatMap fun p => p.1.map fun f => (f.no, (p.2 : Int))
theorem pairsL_F (L : List Lv) : pairsL L = pairsF (flL L) := by
  unfold pairsL pairsF flL prs fls
  have : ∀ q, (L.zipIdx q).flatMap (fun p => p.1.l.map fun x => (x.f.no, (p.2 : Int))) = ((L.map fun x => x.l.map Tf.f).zipIdx q).flatMap (fun p => p.1.map fun f => (f.no, (p.2 : Int))) := by
    induction L with
    | nil => intro q; rfl
    | cons x r ih =>
      intro q
      rw [List.zipIdx_cons, List.map_cons, List.zipIdx_cons, List.flatMap_cons, List.flatMap_cons, ih, List.map_map]
      rfl
  exact this 0
def newF (next : Nat) (f : Fl) : Bool := decide (next ≤ f.no)
def wrongLF (next lev : Nat) (l : List Fl) : Bool := l.any wrongF || l.any (newF next) || !ordF lev l
def numsF (LL : List (List Fl)) : List Nat := LL.flatMap fun l => l.map fun f => f.no
def wrongVF (LL : List (List Fl)) (next seq log : Nat) : Bool := headBad next seq log || decide (LL.length ≠ 5) || LL.zipIdx.any (fun p => wrongLF next p.2 p.1) || !decide (numsF LL).Nodup
theorem wrongLv_F (next lev : Nat) (l : List Tf) : wrongLv next lev l = wrongLF next lev (fls l) := by
  unfold wrongLv wrongLF fls
  rw [List.any_map, List.any_map]
  rfl
theorem wrongV_F (L : List Lv) (next seq log : Nat) : wrongV L next seq log = wrongVF (flL L) next seq log := by
  unfold wrongV wrongVF
  have h1 : ∀ q, (L.zipIdx q).any (fun p => wrongLv next p.2 p.1.l) = ((flL L).zipIdx q).any (fun p => wrongLF next p.2 p.1) := by
    unfold flL
    induction L with
    | nil => intro q; rfl
    | cons x r ih =>
      intro q
      rw [List.zipIdx_cons, List.map_cons, List.zipIdx_cons, List.any_cons, List.any_cons, ih, wrongLv_F]
  have h2 : numsL L = numsF (flL L) := by
    unfold numsL numsF flL fls
    rw [List.flatMap_map]
    simp only [List.map_map]
    rfl
  rw [h1 0, h2, flL_length]
theorem len5 {α : Type} {l : List α} (h : l.length = 5) : ∃ a b c d e, l = [a, b, c, d, e] := by
  match l, h with
  | [a, b, c, d, e], _ => exact ⟨a, b, c, d, e, rfl⟩
theorem flL_at {L : List Lv} {k : Nat} {x : Lv} (h : L[k]? = some x) : (flL L)[k]? = some (fls x.l) := by simp [flL, h]
theorem len_of_ok {LL : List (List Fl)} {next seq log : Nat} (h : wrongVF LL next seq log = false) : LL.length = 5 := by
  unfold wrongVF at h
  simp only [Bool.or_eq_false_iff, decide_eq_false_iff_not] at h
  omega
end Go.Proofs.Ytkmcdjbadngfgaa