import Derived.Test.YtjklbhdhjfifhaaGreatM06
import Derived.Test.YtjklbhdhjfifhaaGreatM01
import Derived.RangeFuncNested
import Derived.RangeFuncBound
import Derived.RangeFuncCalls
import Derived.RangeFuncLeaves
import Derived.Shelf.Abstract
import Derived.Shelf.RegionOpen
import Derived.OwnWalkIn
import Derived.TacticsInMore
import Derived.LoopNIn
import Derived.LoopIn
import Derived.Sort.QuietIn
/-
  A range over a function whose iterator turns cells of its own between two rounds: such cells are told by their types, and one that was there ahead is named.
-/
namespace Go.Proofs.YtjklbhdhjfifhaaGreat
open Go.RowKit Go.Shelf
/-- Cells of one of those types, from B on. -/
def Mine (T : TypeId → Prop) (x B : Nat) (A : World) (k : Nat) : Prop := (B ≤ k ∧ ∃ cs t fr, T t ∧ A.heap[k]? = some (.cells cs t fr)) ∨ k = x
/-- Such cells, or no cells at all. -/
def Loose (T : TypeId → Prop) (x B : Nat) (A : World) (k : Nat) : Prop := (B ≤ k ∧ ∃ o, A.heap[k]? = some o ∧ (o.isCells = false ∨ ∃ cs t fr, T t ∧ o = .cells cs t fr)) ∨ k = x
def StaysX {β : Type} (T : TypeId → Prop) (x B : Nat) (J : β → World → Prop) : Prop := ∀ s A A', J s A → Turns (Mine T x B A) A A' → J s A'
def OwnX {β : Type} (T : TypeId → Prop) (x B : Nat) (J : β → World → Prop) : Prop := ∀ s A A', J s A → Turns (Loose T x B A) A A' → J s A'
theorem OwnX.stays {β : Type} {T : TypeId → Prop} {x B B' : Nat} {J : β → World → Prop} (h : OwnX T x B J) (hB : B ≤ B') : StaysX T x B' J := fun s A A' hj t =>
  h s A A' hj (t.mono fun k _ hk => hk.imp (fun ⟨h1, cs, ty, fr, h2, h3⟩ => ⟨by omega, _, h3, .inr ⟨cs, ty, fr, h2, rfl⟩⟩) id)
theorem OwnX.alloc {β : Type} {T : TypeId → Prop} {x B : Nat} {J : β → World → Prop} (h : OwnX T x B J) {s : β} {W : World} (hj : J s W) (o : Obj) : J s (W.alloc o) := h s W _ hj ((Turns.refl _ W).alloc o)
theorem turns_put {W : World} {l : Nat} {o : Obj} (o' : Obj) (_h : W.heap[l]? = some o) : Turns (fun k => k = l) W (W.putObj l o') :=
  ⟨rfl, rfl, rfl, (grownBy_putObj' W l o').size, fun _ _ hn => World.putObj_heap_other hn⟩
theorem OwnX.put {β : Type} {T : TypeId → Prop} {x B : Nat} {J : β → World → Prop} (h : OwnX T x B J) {s : β} {W : World} (hj : J s W) {l : Nat} {o : Obj} (o' : Obj) (hl : W.heap[l]? = some o) (ho : o.isCells = false) (hB : B ≤ l) : J s (W.putObj l o') :=
  h s W _ hj ((turns_put o' hl).mono fun k _ e => by subst e; exact .inl ⟨hB, o, hl, .inl ho⟩)
theorem keeps_mono {B B' : Nat} {W W' : World} (h : KeepsFrom B W W') (hB : B ≤ B') : KeepsFrom B' W W' := ⟨h.size, fun k o hk => h.same k o (Nat.le_trans hB hk)⟩
theorem keeps_put {B : Nat} (W : World) (l : Nat) (o' : Obj) (hB : l < B) : KeepsFrom B W (W.putObj l o') := ⟨(grownBy_putObj' W l o').size, fun k o hk h _ => (World.putObj_heap_other (by omega)).trans h⟩
/-- What an iterator does whose own cells are of those types. -/
def SeqX {α : Type} (T : TypeId → Prop) (x0 : Nat) (F : Fence) (n : Nat) (P : Program) (g : Nat) (lb : Array Value) (encs : α → Array Value) (Kp : World → World → Prop) (S Sp : List α → Prop) (N : List α → α → Prop) (w : World) : Prop :=
  ∀ (l : Nat) (J Jx : List α → World → Prop) (W : World), Below w.heap.size w W → OwnX T x0 W.heap.size J → OwnX T x0 W.heap.size Jx →
    (∀ pre x W1, J pre W1 → N pre x → YieldAt F (n - 1) P l (encs x) W1 fun e W' => (e = .returned (.bool true) ∧ J (pre ++ [x]) W' ∧ Kp W1 W' ∧ KeepsFrom W.heap.size W1 W') ∨ (e = .returned (.bool false) ∧ Jx (pre ++ [x]) W' ∧ KeepsFrom W.heap.size W1 W')) → J [] W →
    CallsIn F n P g (#[.func (.yield l) #[] #[]] ++ lb) W fun e W' => (∃ v, e = .returned v) ∧ ((∃ xs, S xs ∧ J xs W') ∨ (∃ pre, Sp pre ∧ Jx pre W'))
section
variable {F : Fence} {n : Nat} {P : Program}
theorem range_x {α : Type} {g : Operand} {ps : Array Tmp} {assign body : Code} {Q : Exit → Act → World → Prop} {a : Act} {w : World} (hro : F.round = none) (h1 : 1 ≤ n) {gf : Nat} {lb : Array Value} (hg : a.eval g = .func (.func gf) #[] lb) (hFg : F.fn gf)
    (eg : ∀ args w, (callFunc gf args).run P w = .ok (.enter gf args) w) {T : TypeId → Prop} {x0 : Nat} (hx0 : x0 < w.heap.size) {encs : α → Array Value} {Kp : World → World → Prop} {S Sp : List α → Prop} {N : List α → α → Prop} {w0 : World} (hseq : SeqX T x0 F (n - 1) P gf lb encs Kp S Sp N w0)
    (hKt : ∀ {A B C : World}, Kp A B → Kp B C → Kp A C) (hKb : ∀ (W : World) (l : Nat) (o o' : Obj), w.heap.size ≤ l → W.heap[l]? = some o → o.isCells = false → Kp W (W.putObj l o')) (hb0 : Below w0.heap.size w0 w) (hps : ∀ x, (encs x).size = ps.size)
    (I : List α → World → Prop) (Ix : Code → List α → World → Prop) (hI : OwnX T x0 w.heap.size I) (hIx : ∀ c, OwnX T x0 w.heap.size (Ix c)) (h0 : I [] w) (Ax : α → Act → World → Prop) (hAx : ∀ x a', OwnX T x0 w.heap.size (fun (_ : Unit) W => Ax x a' W))
    (hassign : ∀ (l : Nat) (pre : List α) (x : α) (W : World) (K : Act → World → Prop), I pre W → (∀ a' W', KeepsFrom w.heap.size W W' → Kp W W' → I pre W' → Ax x a' W' → K a' W') →
      assign.wpIn (F.inRound l) (n - 1 - 1) P (Exit.then K (fun _ _ _ => False)) { tmps := (ps.zip (encs x)).foldl (fun t (p, v) => t.setIfInBounds p v) a.tmps, defers := [] } W)
    (hbody : ∀ (l : Nat) (pre : List α) (x : α) (a' : Act) (W : World), w.heap.size ≤ l → (∃ r, W.heap[l]? = some (.loop r)) → I pre W → Ax x a' W → N pre x → body.wpIn (F.inRound l) (n - 1 - 1) P (ownPostG w.heap.size Kp I Ix (pre ++ [x]) W) a' W)
    (hdone : ∀ (D : Nat) (xs : List α) (W : World), w.heap.size ≤ D → S xs → I xs W → W.heap[D]? = some (.deferred (some [])) → Q .normal { a with defers := { target := .collected D, args := #[] } :: a.defers } W)
    (hstop : ∀ (D : Nat) (c : Code) (pre : List α) (W : World), w.heap.size ≤ D → Sp pre → Ix c pre W → W.heap[D]? = some (.deferred (some [])) → c.wpIn F n P Q { a with defers := { target := .collected D, args := #[] } :: a.defers } W) :
    (Code.rangeFunc g ps assign body).wpIn F n P Q a w := by
  refine wpIn_rangeFunc fun fn hfn => ?_
  rw [hro]
  -- the loop's record, as it stands and turns
  let R : LoopState → Option Code → Obj := fun st pe => .loop { state := st, pending := pe, fn, tmps := a.tmps, params := ps, assign, body, defers := w.heap.size }
  have hRc : ∀ st pe, (R st pe).isCells = false := fun _ _ => rfl
  generalize hW1 : (w.alloc (.deferred (some []))).alloc (R .ready none) = W1
  have hD1 : W1.heap[w.heap.size]? = some (.deferred (some [])) := by
    subst hW1
    exact (Below.heap_alloc _ _ _ (by simp)).trans (heap_alloc_new w _)
  have hL1 : W1.heap[w.heap.size + 1]? = some (R .ready none) := by
    subst hW1
    have := heap_alloc_new (w.alloc (.deferred (some []))) (R .ready none)
    rwa [World.size_alloc] at this
  have hI1 : I [] W1 := by subst hW1; exact hI.alloc (hI.alloc h0 _) _
  have hb1 : Below w0.heap.size w0 W1 := by
    subst hW1
    exact (hb0.alloc (by have := hb0.size; omega) _).alloc (by have := hb0.size; simp; omega) _
  have hW1s : W1.heap.size = w.heap.size + 2 := by subst hW1; simp
  refine ⟨w.heap.size + 1, [{ target := .collected w.heap.size, args := #[] }], W1, { target := .fn (.func gf) lb, args := #[.func (.yield (w.heap.size + 1)) #[] #[]] }, W1, gf, #[.func (.yield (w.heap.size + 1)) #[] #[]] ++ lb, W1, ?_, ?_, ?_, ?_, fun _ => h1, ?_⟩
  · rw [run_enterLoop_outer, ← hW1]
  · simp only [resolve, hg]
    simp [go_sem]
  · intro f' hf'
    simp [Target.leads] at hf'
    subst hf'
    exact hFg
  · simp [invoke, go_sem, eg]
  · refine (hseq (w.heap.size + 1) (fun pre W => I pre W ∧ W.heap[w.heap.size + 1]? = some (R .ready none) ∧ W.heap[w.heap.size]? = some (.deferred (some [])))
      (fun pre W => ∃ c, Ix c pre W ∧ W.heap[w.heap.size + 1]? = some (R .done (some c)) ∧ W.heap[w.heap.size]? = some (.deferred (some []))) W1 hb1 ?_ ?_ ?_ ⟨hI1, hL1, hD1⟩).mono ?_
    · rintro s A A' ⟨i1, i2, i3⟩ t
      exact ⟨hI s A A' i1 (t.mono fun k _ h => h.imp (fun h => ⟨by have := h.1; omega, h.2⟩) id), t.heap i2 (fun h => h.elim (fun h => by have := h.1; omega) (fun h => by omega)), t.heap i3 (fun h => h.elim (fun h => by have := h.1; omega) (fun h => by omega))⟩
    · rintro s A A' ⟨c, i1, i2, i3⟩ t
      exact ⟨c, (hIx c) s A A' i1 (t.mono fun k _ h => h.imp (fun h => ⟨by have := h.1; omega, h.2⟩) id), t.heap i2 (fun h => h.elim (fun h => by have := h.1; omega) (fun h => by omega)), t.heap i3 (fun h => h.elim (fun h => by have := h.1; omega) (fun h => by omega))⟩
    · rintro pre x W ⟨hi, hl, hd⟩ hlen
      refine ⟨fn, _, assign, body, run_yield hl (hps x), roundIn_of_wpIn hfn (hassign _ pre x W _ hi ?_)⟩
      intro a' Wa ka kpa hia hax
      have hla := ka.same _ _ (by omega) hl rfl
      have hda := ka.same _ _ (Nat.le_refl _) hd rfl
      have hlt := lt_of_heap hla
      refine ⟨_, run_beginRound hla rfl, ?_⟩
      have hlb : (Wa.putObj (w.heap.size + 1) (R .busy none)).heap[w.heap.size + 1]? = some (R .busy none) := World.putObj_heap_same hlt
      have hdb : (Wa.putObj (w.heap.size + 1) (R .busy none)).heap[w.heap.size]? = some (.deferred (some [])) := (World.putObj_heap_other (by omega)).trans hda
      have kpb : Kp Wa (Wa.putObj (w.heap.size + 1) (R .busy none)) := hKb _ _ _ _ (by omega) hla rfl
      refine wpIn_mono (hbody _ pre x a' _ (by omega) ⟨_, hlb⟩ (hI.put hia _ hla rfl (by omega)) ((hAx x a').put (s := ()) hax _ hla rfl (by omega)) hlen) ?_
      -- however the body ends, the record and the mark are there
      have fin : ∀ (jump : Option Code) (W3 : World), KeepsFrom w.heap.size (Wa.putObj (w.heap.size + 1) (R .busy none)) W3 → W3.heap[w.heap.size + 1]? = some (R .busy none) ∧ (Instr.endRound (w.heap.size + 1) jump).run P W3 = .ok (.bool jump.isNone) (W3.putObj (w.heap.size + 1) (R (if jump.isNone then .ready else .done) jump)) ∧
          (W3.putObj (w.heap.size + 1) (R (if jump.isNone then .ready else .done) jump)).heap[w.heap.size + 1]? = some (R (if jump.isNone then .ready else .done) jump) ∧ (W3.putObj (w.heap.size + 1) (R (if jump.isNone then .ready else .done) jump)).heap[w.heap.size]? = some (.deferred (some [])) := fun jump W3 k3 => by
        have hl3 := k3.same _ _ (by omega) hlb rfl
        exact ⟨hl3, run_endRound jump hl3, World.putObj_heap_same (lt_of_heap hl3), (World.putObj_heap_other (by omega)).trans (k3.same _ _ (Nat.le_refl _) hdb rfl)⟩
      have kall : ∀ (W3 : World) (o' : Obj), KeepsFrom w.heap.size (Wa.putObj (w.heap.size + 1) (R .busy none)) W3 → KeepsFrom W1.heap.size W (W3.putObj (w.heap.size + 1) o') := fun W3 o' k3 =>
        (((keeps_mono ka (by omega)).trans (keeps_put _ _ _ (by omega))).trans (keeps_mono k3 (by omega))).trans (keeps_put _ _ _ (by omega))
      rintro e a3 W3 hp
      cases e with
      | normal =>
        obtain ⟨k3, kp3, i3⟩ := hp
        obtain ⟨f1, f2, f3, f4⟩ := fin none W3 k3
        exact ⟨_, _, f2, .inl ⟨rfl, ⟨hI.put i3 _ f1 rfl (by omega), f3, f4⟩, hKt kpa (hKt (hKt kpb kp3) (hKb _ _ _ _ (by omega) f1 rfl)), kall W3 _ k3⟩⟩
      | ret =>
        obtain ⟨f1, f2, f3, f4⟩ := fin (some .ret) W3 hp.1
        exact ⟨_, _, f2, .inr ⟨rfl, ⟨.ret, (hIx _).put hp.2 _ f1 rfl (by omega), f3, f4⟩, kall W3 _ hp.1⟩⟩
      | exit id =>
        obtain ⟨f1, f2, f3, f4⟩ := fin (some (.exit id)) W3 hp.1
        exact ⟨_, _, f2, .inr ⟨rfl, ⟨.exit id, (hIx _).put hp.2 _ f1 rfl (by omega), f3, f4⟩, kall W3 _ hp.1⟩⟩
      | goto t =>
        obtain ⟨f1, f2, f3, f4⟩ := fin (some (.goto t)) W3 hp.1
        exact ⟨_, _, f2, .inr ⟨rfl, ⟨.goto t, (hIx _).put hp.2 _ f1 rfl (by omega), f3, f4⟩, kall W3 _ hp.1⟩⟩
      | panic ch => exact hp.elim
      | outgrown => exact hp.elim
    · rintro e W2 ⟨⟨v, rfl⟩, (⟨xs, hS, hi, hl, hd⟩ | ⟨pre, hSp, c, hi, hl, hd⟩)⟩
      · exact ⟨none, _, run_endLoop hl (by simp), hdone _ xs _ (Nat.le_refl _) hS (hI.put hi _ hl rfl (by omega)) ((World.putObj_heap_other (by omega)).trans hd)⟩
      · exact ⟨some c, _, run_endLoop hl (by simp), hstop _ c pre _ (Nat.le_refl _) hSp ((hIx c).put hi _ hl rfl (by omega)) ((World.putObj_heap_other (by omega)).trans hd)⟩
end
end Go.Proofs.YtjklbhdhjfifhaaGreat
