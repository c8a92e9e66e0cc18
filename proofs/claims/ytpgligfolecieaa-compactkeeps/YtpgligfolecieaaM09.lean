import Derived.Test.YtpgligfolecieaaM08
import Derived.RangeFuncNested
import Derived.RangeFuncBound
import Derived.RangeFuncCalls
import Derived.RangeFuncLeaves
import Derived.Shelf.Abstract
import Derived.Shelf.RegionOpen
import Derived.OwnWalkIn
import Derived.TacticsInMore
import Derived.LoopNIn
import Derived.LoopIn
import Derived.Sort.QuietIn
import Derived.Test.YtpgligfolecieaaM04
import Derived.Test.YtpgligfolecieaaM03
/-
  A range over a function whose iterator turns cells of its own between two rounds: such cells are told by their types.
-/
namespace Go.Proofs.Ytpgligfolecieaa
open Go.RowKit Go.Shelf
/-- Cells of one of those types, from B on. -/
def Mine (T : TypeId → Prop) (B : Nat) (A : World) (k : Nat) : Prop := B ≤ k ∧ ∃ cs t fr, T t ∧ A.heap[k]? = some (.cells cs t fr)
/-- Such cells, or no cells at all. -/
def Loose (T : TypeId → Prop) (B : Nat) (A : World) (k : Nat) : Prop := B ≤ k ∧ ∃ o, A.heap[k]? = some o ∧ (o.isCells = false ∨ ∃ cs t fr, T t ∧ o = .cells cs t fr)
def StaysX {β : Type} (T : TypeId → Prop) (B : Nat) (J : β → World → Prop) : Prop := ∀ s A A', J s A → Turns (Mine T B A) A A' → J s A'
def OwnX {β : Type} (T : TypeId → Prop) (B : Nat) (J : β → World → Prop) : Prop := ∀ s A A', J s A → Turns (Loose T B A) A A' → J s A'
theorem OwnX.stays {β : Type} {T : TypeId → Prop} {B B' : Nat} {J : β → World → Prop} (h : OwnX T B J) (hB : B ≤ B') : StaysX T B' J := fun s A A' hj t =>
  h s A A' hj (t.mono fun k _ ⟨h1, cs, ty, fr, h2, h3⟩ => ⟨by omega, _, h3, .inr ⟨cs, ty, fr, h2, rfl⟩⟩)
theorem OwnX.alloc {β : Type} {T : TypeId → Prop} {B : Nat} {J : β → World → Prop} (h : OwnX T B J) {s : β} {W : World} (hj : J s W) (o : Obj) : J s (W.alloc o) := h s W _ hj ((Turns.refl _ W).alloc o)
theorem turns_put {W : World} {l : Nat} {o : Obj} (o' : Obj) (_h : W.heap[l]? = some o) : Turns (fun k => k = l) W (W.putObj l o') :=
  ⟨rfl, rfl, rfl, (grownBy_putObj' W l o').size, fun _ _ hn => World.putObj_heap_other hn⟩
theorem OwnX.put {β : Type} {T : TypeId → Prop} {B : Nat} {J : β → World → Prop} (h : OwnX T B J) {s : β} {W : World} (hj : J s W) {l : Nat} {o : Obj} (o' : Obj) (hl : W.heap[l]? = some o) (ho : o.isCells = false) (hB : B ≤ l) : J s (W.putObj l o') :=
  h s W _ hj ((turns_put o' hl).mono fun k _ e => by subst e; exact ⟨hB, o, hl, .inl ho⟩)
theorem mine_other {T : TypeId → Prop} {B : Nat} {A A' : World} (t : Turns (Mine T B A) A A') {k : Nat} {o : Obj} (hk : A.heap[k]? = some o) (ho : o.isCells = false) : A'.heap[k]? = some o :=
  t.heap hk fun ⟨_, cs, ty, fr, _, h⟩ => by rw [hk] at h; cases h; cases ho
theorem keeps_mono {B B' : Nat} {W W' : World} (h : KeepsFrom B W W') (hB : B ≤ B') : KeepsFrom B' W W' := ⟨h.size, fun k o hk => h.same k o (Nat.le_trans hB hk)⟩
theorem keeps_put {B : Nat} (W : World) (l : Nat) (o' : Obj) (hB : l < B) : KeepsFrom B W (W.putObj l o') := ⟨(grownBy_putObj' W l o').size, fun k o hk h _ => (World.putObj_heap_other (by omega)).trans h⟩
/-- What an iterator does whose own cells are of those types. -/
def SeqX {α : Type} (T : TypeId → Prop) (F : Fence) (n : Nat) (P : Program) (g : Nat) (lb : Array Value) (encs : α → Array Value) (Kp : World → World → Prop) (S Sp : List α → Prop) (N : Nat) (w : World) : Prop :=
  ∀ (l : Nat) (J Jx : List α → World → Prop) (W : World), Below w.heap.size w W → OwnX T W.heap.size J → OwnX T W.heap.size Jx →
    (∀ pre x W1, J pre W1 → pre.length < N → YieldAt F (n - 1) P l (encs x) W1 fun e W' => (e = .returned (.bool true) ∧ J (pre ++ [x]) W' ∧ Kp W1 W' ∧ KeepsFrom W.heap.size W1 W') ∨ (e = .returned (.bool false) ∧ Jx (pre ++ [x]) W' ∧ KeepsFrom W.heap.size W1 W')) → J [] W →
    CallsIn F n P g (#[.func (.yield l) #[] #[]] ++ lb) W fun e W' => (∃ v, e = .returned v) ∧ ((∃ xs, S xs ∧ J xs W') ∨ (∃ pre, Sp pre ∧ Jx pre W'))
section
variable {F : Fence} {n : Nat} {P : Program}
theorem range_x {α : Type} {g : Operand} {ps : Array Tmp} {assign body : Code} {Q : Exit → Act → World → Prop} {a : Act} {w : World} (hro : F.round = none) (h1 : 1 ≤ n) {gf : Nat} {lb : Array Value} (hg : a.eval g = .func (.func gf) #[] lb) (hFg : F.fn gf)
    (eg : ∀ args w, (callFunc gf args).run P w = .ok (.enter gf args) w) {T : TypeId → Prop} {encs : α → Array Value} {Kp : World → World → Prop} {S Sp : List α → Prop} {N : Nat} {w0 : World} (hseq : SeqX T F (n - 1) P gf lb encs Kp S Sp N w0)
    (hKt : ∀ {A B C : World}, Kp A B → Kp B C → Kp A C) (hKb : ∀ (W : World) (l : Nat) (o o' : Obj), w.heap.size ≤ l → W.heap[l]? = some o → o.isCells = false → Kp W (W.putObj l o')) (hb0 : Below w0.heap.size w0 w) (hps : ∀ x, (encs x).size = ps.size)
    (I : List α → World → Prop) (Ix : Code → List α → World → Prop) (hI : OwnX T w.heap.size I) (hIx : ∀ c, OwnX T w.heap.size (Ix c)) (h0 : I [] w) (Ax : α → Act → World → Prop) (hAx : ∀ x a', OwnX T w.heap.size (fun (_ : Unit) W => Ax x a' W))
    (hassign : ∀ (l : Nat) (pre : List α) (x : α) (W : World) (K : Act → World → Prop), I pre W → (∀ a' W', KeepsFrom w.heap.size W W' → Kp W W' → I pre W' → Ax x a' W' → K a' W') →
      assign.wpIn (F.inRound l) (n - 1 - 1) P (Exit.then K (fun _ _ _ => False)) { tmps := (ps.zip (encs x)).foldl (fun t (p, v) => t.setIfInBounds p v) a.tmps, defers := [] } W)
    (hbody : ∀ (l : Nat) (pre : List α) (x : α) (a' : Act) (W : World), w.heap.size ≤ l → (∃ r, W.heap[l]? = some (.loop r)) → I pre W → Ax x a' W → pre.length < N → body.wpIn (F.inRound l) (n - 1 - 1) P (ownPostG w.heap.size Kp I Ix (pre ++ [x]) W) a' W)
    (hdone : ∀ (D : Nat) (xs : List α) (W : World), w.heap.size ≤ D → S xs → I xs W → W.heap[D]? = some (.deferred (some [])) → Q .normal { a with defers := { target := .collected D, args := #[] } :: a.defers } W)
    (hstop : ∀ (D : Nat) (c : Code) (pre : List α) (W : World), w.heap.size ≤ D → Sp pre → Ix c pre W → W.heap[D]? = some (.deferred (some [])) → c.wpIn F n P Q { a with defers := { target := .collected D, args := #[] } :: a.defers } W) :
    (Code.rangeFunc g ps assign body).wpIn F n P Q a w := by
  refine wpIn_rangeFunc fun fn hfn => ?_
  rw [hro]
  -- the loop's record, as it stands and turns
  let R : LoopState → Option Code → Obj := fun st pe => .loop { state := st, pending := pe, fn, tmps := a.tmps, params := ps, assign, body, defers := w.heap.size }
  have hRc : ∀ st pe, (R st pe).isCells = false := fun _ _ => rfl
  generalize hW1 : (w.alloc (.deferred (some []))).alloc (R .ready none) = W1
  have hD1 : W1.heap[w.heap.size]? = some (.deferred (some [])) := by
    subst hW1
    exact (Below.heap_alloc _ _ _ (by simp)).trans (heap_alloc_new w _)
  have hL1 : W1.heap[w.heap.size + 1]? = some (R .ready none) := by
    subst hW1
    have := heap_alloc_new (w.alloc (.deferred (some []))) (R .ready none)
    rwa [World.size_alloc] at this
  have hI1 : I [] W1 := by subst hW1; exact hI.alloc (hI.alloc h0 _) _
  have hb1 : Below w0.heap.size w0 W1 := by
    subst hW1
    exact (hb0.alloc (by have := hb0.size; omega) _).alloc (by have := hb0.size; simp; omega) _
  have hW1s : W1.heap.size = w.heap.size + 2 := by subst hW1; simp
  refine ⟨w.heap.size + 1, [{ target := .collected w.heap.size, args := #[] }], W1, { target := .fn (.func gf) lb, args := #[.func (.yield (w.heap.size + 1)) #[] #[]] }, W1, gf, #[.func (.yield (w.heap.size + 1)) #[] #[]] ++ lb, W1, ?_, ?_, ?_, ?_, fun _ => h1, ?_⟩
  · rw [run_enterLoop_outer, ← hW1]
  · simp only [resolve, hg]
    simp [go_sem]
  · intro f' hf'
    simp [Target.leads] at hf'
    subst hf'
    exact hFg
  · simp [invoke, go_sem, eg]
  · refine (hseq (w.heap.size + 1) (fun pre W => I pre W ∧ W.heap[w.heap.size + 1]? = some (R .ready none) ∧ W.heap[w.heap.size]? = some (.deferred (some [])))
      (fun pre W => ∃ c, Ix c pre W ∧ W.heap[w.heap.size + 1]? = some (R .done (some c)) ∧ W.heap[w.heap.size]? = some (.deferred (some []))) W1 hb1 ?_ ?_ ?_ ⟨hI1, hL1, hD1⟩).mono ?_
    · rintro s A A' ⟨i1, i2, i3⟩ t
      exact ⟨hI s A A' i1 (t.mono fun k _ h => ⟨by have := h.1; omega, h.2⟩), t.heap i2 (fun h => by have := h.1; omega), t.heap i3 (fun h => by have := h.1; omega)⟩
    · rintro s A A' ⟨c, i1, i2, i3⟩ t
      exact ⟨c, (hIx c) s A A' i1 (t.mono fun k _ h => ⟨by have := h.1; omega, h.2⟩), t.heap i2 (fun h => by have := h.1; omega), t.heap i3 (fun h => by have := h.1; omega)⟩
    · rintro pre x W ⟨hi, hl, hd⟩ hlen
      refine ⟨fn, _, assign, body, run_yield hl (hps x), roundIn_of_wpIn hfn (hassign _ pre x W _ hi ?_)⟩
      intro a' Wa ka kpa hia hax
      have hla := ka.same _ _ (by omega) hl rfl
      have hda := ka.same _ _ (Nat.le_refl _) hd rfl
      have hlt := lt_of_heap hla
      refine ⟨_, run_beginRound hla rfl, ?_⟩
      have hlb : (Wa.putObj (w.heap.size + 1) (R .busy none)).heap[w.heap.size + 1]? = some (R .busy none) := World.putObj_heap_same hlt
      have hdb : (Wa.putObj (w.heap.size + 1) (R .busy none)).heap[w.heap.size]? = some (.deferred (some [])) := (World.putObj_heap_other (by omega)).trans hda
      have kpb : Kp Wa (Wa.putObj (w.heap.size + 1) (R .busy none)) := hKb _ _ _ _ (by omega) hla rfl
      refine wpIn_mono (hbody _ pre x a' _ (by omega) ⟨_, hlb⟩ (hI.put hia _ hla rfl (by omega)) ((hAx x a').put (s := ()) hax _ hla rfl (by omega)) hlen) ?_
      -- however the body ends, the record and the mark are there
      have fin : ∀ (jump : Option Code) (W3 : World), KeepsFrom w.heap.size (Wa.putObj (w.heap.size + 1) (R .busy none)) W3 → W3.heap[w.heap.size + 1]? = some (R .busy none) ∧ (Instr.endRound (w.heap.size + 1) jump).run P W3 = .ok (.bool jump.isNone) (W3.putObj (w.heap.size + 1) (R (if jump.isNone then .ready else .done) jump)) ∧
          (W3.putObj (w.heap.size + 1) (R (if jump.isNone then .ready else .done) jump)).heap[w.heap.size + 1]? = some (R (if jump.isNone then .ready else .done) jump) ∧ (W3.putObj (w.heap.size + 1) (R (if jump.isNone then .ready else .done) jump)).heap[w.heap.size]? = some (.deferred (some [])) := fun jump W3 k3 => by
        have hl3 := k3.same _ _ (by omega) hlb rfl
        exact ⟨hl3, run_endRound jump hl3, World.putObj_heap_same (lt_of_heap hl3), (World.putObj_heap_other (by omega)).trans (k3.same _ _ (Nat.le_refl _) hdb rfl)⟩
      have kall : ∀ (W3 : World) (o' : Obj), KeepsFrom w.heap.size (Wa.putObj (w.heap.size + 1) (R .busy none)) W3 → KeepsFrom W1.heap.size W (W3.putObj (w.heap.size + 1) o') := fun W3 o' k3 =>
        (((keeps_mono ka (by omega)).trans (keeps_put _ _ _ (by omega))).trans (keeps_mono k3 (by omega))).trans (keeps_put _ _ _ (by omega))
      rintro e a3 W3 hp
      cases e with
      | normal =>
        obtain ⟨k3, kp3, i3⟩ := hp
        obtain ⟨f1, f2, f3, f4⟩ := fin none W3 k3
        exact ⟨_, _, f2, .inl ⟨rfl, ⟨hI.put i3 _ f1 rfl (by omega), f3, f4⟩, hKt kpa (hKt (hKt kpb kp3) (hKb _ _ _ _ (by omega) f1 rfl)), kall W3 _ k3⟩⟩
      | ret =>
        obtain ⟨f1, f2, f3, f4⟩ := fin (some .ret) W3 hp.1
        exact ⟨_, _, f2, .inr ⟨rfl, ⟨.ret, (hIx _).put hp.2 _ f1 rfl (by omega), f3, f4⟩, kall W3 _ hp.1⟩⟩
      | exit id =>
        obtain ⟨f1, f2, f3, f4⟩ := fin (some (.exit id)) W3 hp.1
        exact ⟨_, _, f2, .inr ⟨rfl, ⟨.exit id, (hIx _).put hp.2 _ f1 rfl (by omega), f3, f4⟩, kall W3 _ hp.1⟩⟩
      | goto t =>
        obtain ⟨f1, f2, f3, f4⟩ := fin (some (.goto t)) W3 hp.1
        exact ⟨_, _, f2, .inr ⟨rfl, ⟨.goto t, (hIx _).put hp.2 _ f1 rfl (by omega), f3, f4⟩, kall W3 _ hp.1⟩⟩
      | panic ch => exact hp.elim
      | outgrown => exact hp.elim
    · rintro e W2 ⟨⟨v, rfl⟩, (⟨xs, hS, hi, hl, hd⟩ | ⟨pre, hSp, c, hi, hl, hd⟩)⟩
      · exact ⟨none, _, run_endLoop hl (by simp), hdone _ xs _ (Nat.le_refl _) hS (hI.put hi _ hl rfl (by omega)) ((World.putObj_heap_other (by omega)).trans hd)⟩
      · exact ⟨some c, _, run_endLoop hl (by simp), hstop _ c pre _ (Nat.le_refl _) hSp ((hIx c).put hi _ hl rfl (by omega)) ((World.putObj_heap_other (by omega)).trans hd)⟩
end
end Go.Proofs.Ytpgligfolecieaa

/-
  The heads of rows in memory; Len, Less, Swap.
-/
namespace Go.Proofs.Ytpgligfolecieaa
open Go.RowKit
set_option maxRecDepth 100000
set_option maxHeartbeats 4000000
/-- Where a merge stands in a row: the entries that are left, where they lie, and the row's number. -/
structure Hd where
  b : Nat
  off : Nat
  c : Nat
  R : List Tow
  no : Nat
instance : Inhabited Hd := ⟨⟨0, 0, 0, [], 0⟩⟩
def Hd.sv (h : Hd) : Value := .slice (some ⟨h.b, h.off, none⟩) h.R.length h.c
def Hd.top (h : Hd) : En := (h.R[0]?.map (·.e.en)).getD ([], 0)
/-- A head: entries that lie there. -/
structure HdOk (w : World) (h : Hd) : Prop where
  ne : h.R ≠ []
  ents : Ents w (some ⟨h.b, h.off, none⟩) h.R
  cap : h.R.length ≤ h.c
  size : h.R.length ≤ 1000000
  no : h.no ≤ 1000000
theorem HdOk.quiet {w w' : World} {h : Hd} (k : HdOk w h) (t : Turns (fun _ => False) w w') : HdOk w' h := ⟨k.ne, k.ents.quiet t, k.cap, k.size, k.no⟩
def ltH (x y : Hd) : Prop := cmpE x.top y.top < 0 ∨ cmpE x.top y.top = 0 ∧ x.no < y.no
instance (x y : Hd) : Decidable (ltH x y) := by unfold ltH; infer_instance
theorem ltH_irr (x : Hd) : ¬ ltH x x := by
  have := (cmpE_zero x.top x.top).2 ⟨rfl, rfl⟩
  unfold ltH
  omega
theorem ltH_asym (x y : Hd) (h : ltH x y) : ¬ ltH y x := by
  have := cmpE_swap x.top y.top
  unfold ltH at *
  omega
theorem cmpE_sub {x y z : En} (h1 : cmpE x y ≤ 0) (h2 : cmpE y z ≤ 0) : cmpE x z ≤ 0 ∧ (cmpE x z = 0 → cmpE x y = 0 ∧ cmpE y z = 0) := by
  refine ⟨cmpE_trans x y z h1 h2, fun e => ?_⟩
  have s1 := cmpE_swap x z
  have h3 := cmpE_trans y z x h2 (by omega)
  have s2 := cmpE_swap x y
  have h4 := cmpE_trans z x y (by omega) h1
  have s3 := cmpE_swap y z
  omega
theorem ltH_tr (x y z : Hd) (h1 : ¬ ltH y x) (h2 : ¬ ltH z y) : ¬ ltH z x := by
  have s1 := cmpE_swap x.top y.top
  have s2 := cmpE_swap y.top z.top
  have s3 := cmpE_swap x.top z.top
  unfold ltH at *
  have h3 := @cmpE_sub x.top y.top z.top (by omega) (by omega)
  omega
def hdCells (L : List Hd) : List Value := L.flatMap fun h => [h.sv, .int .i64 (h.no : Nat)]
theorem hdCells_length (L : List Hd) : (hdCells L).length = L.length * 2 := by
  induction L with
  | nil => rfl
  | cons x r ih => simp only [hdCells, List.flatMap_cons, List.length_append, List.length_cons, List.length_nil] at ih ⊢; omega
theorem hdCells_get : ∀ (L : List Hd) (k j : Nat), j < 2 → (hdCells L)[k * 2 + j]? = (L[k]?).map fun h => if j = 0 then h.sv else .int .i64 (h.no : Nat)
  | [], k, j, _ => by simp [hdCells]
  | y :: r, 0, j, hj => by
    have : j = 0 ∨ j = 1 := by omega
    rcases this with rfl | rfl <;> rfl
  | y :: r, k + 1, j, hj => by
    have := hdCells_get r k j hj
    show ([y.sv, .int .i64 (y.no : Nat)] ++ hdCells r)[(k + 1) * 2 + j]? = _
    rw [List.getElem?_append_right (by simp; omega), show (k + 1) * 2 + j - [y.sv, Value.int .i64 (y.no : Nat)].length = k * 2 + j by simp; omega, this]
    simp
/-- The heads in a row of their own. -/
def HRow (w : World) (g c : Nat) (L : List Hd) : Prop := L.length ≤ c ∧ RowC w g 94 (c * 2) (hdCells L)
theorem HRow.at {w : World} {g c : Nat} {L : List Hd} (h : HRow w g c L) {i : Nat} {x : Hd} (hi : L[i]? = some x) : w.cell? ⟨g, i * 2, none⟩ = some (.slice (some ⟨x.b, x.off, none⟩) x.R.length x.c) ∧ w.cell? ⟨g, i * 2 + 1, none⟩ = some (.int .i64 (x.no : Nat)) := by
  obtain ⟨_, cs, h1, _, h2⟩ := h
  have hl := (List.getElem?_eq_some_iff.1 hi).1
  have hlen := hdCells_length L
  refine ⟨?_, ?_⟩
  · rw [cell_of_row w g _ cs 94 (0, 0) h1, h2 _ (by omega)]
    have := hdCells_get L i 0 (by omega)
    rw [hi] at this
    exact this
  · rw [cell_of_row w g _ cs 94 (0, 0) h1, h2 _ (by omega)]
    have := hdCells_get L i 1 (by omega)
    rw [hi] at this
    exact this
theorem HRow.keep {S : Nat → Prop} {w w' : World} {g c : Nat} {L : List Hd} (h : HRow w g c L) (t : Turns S w w') (hg : ¬ S g) : HRow w' g c L := ⟨h.1, h.2.turns t hg⟩
theorem HRow.frozen {w : World} {g c : Nat} {L : List Hd} (h : HRow w g c L) (k : Nat) : w.frozen? ⟨g, k, none⟩ = false := by
  obtain ⟨_, cs, h1, _⟩ := h
  exact frozen_of_row w g k cs 94 h1
theorem HRow.lt {w : World} {g c : Nat} {L : List Hd} (h : HRow w g c L) : g < w.heap.size := by
  obtain ⟨_, cs, h1, _⟩ := h
  exact lt_of_heap h1
theorem len_any (a : Option Addr) (n c : Nat) (w : World) : Calls Try.prog 100 #[.slice a n c] w fun e w' => e = .returned (.int .i64 (n : Nat)) ∧ w' = w := by
  go_enter Try.func100, Try.ntmps100
  go_wp2_with fail
  go_ret
  exact ⟨rfl, rfl⟩
theorem cmpI_any (x y : Nat) (w : World) : Calls Try.prog 103 #[.int .i64 (x : Nat), .int .i64 (y : Nat)] w fun e w' => e = .returned (.int .i64 (cmpN x y)) ∧ w' = w := by
  go_enter Try.func103, Try.ntmps103
  go_wp2
  all_goals go_ret
  all_goals refine ⟨congrArg Ending.returned (congrArg (Value.int IntKind.i64) ?_), rfl⟩
  · rw [cmpN, if_pos (by omega)]
  · rw [cmpN, if_neg (by omega), if_pos (by omega)]
  · rw [cmpN, if_neg (by omega), if_neg (by omega)]
theorem ltH_val (p q : En) (a b : Nat) : decide (orN (cmpE p q) (cmpN a b) < 0) = decide (cmpE p q < 0 ∨ cmpE p q = 0 ∧ a < b) := by
  refine decide_eq_decide.2 ?_
  unfold orN cmpN
  repeat' split
  all_goals omega
end Go.Proofs.Ytpgligfolecieaa

/-
  Which of two heads is ahead.
-/
namespace Go.Proofs.Ytpgligfolecieaa
open Go.RowKit
set_option maxRecDepth 100000
set_option maxHeartbeats 4000000
theorem less_any (g c n i j : Nat) (L : List Hd) (x y : Hd) (w : World) (hrow : HRow w g c L) (hn : n = L.length) (hi : L[i]? = some x) (hj : L[j]? = some y) (hx : HdOk w x) (hy : HdOk w y) :
    Calls Try.prog 101 #[.slice (some ⟨g, 0, none⟩) n c, .int .i64 (i : Nat), .int .i64 (j : Nat)] w fun e w' => e = .returned (.bool (decide (ltH x y))) ∧ Below w.heap.size w w' := by
  obtain ⟨a0, a1⟩ := hrow.at hi
  obtain ⟨b0, b1⟩ := hrow.at hj
  have hil := (List.getElem?_eq_some_iff.1 hi).1
  have hjl := (List.getElem?_eq_some_iff.1 hj).1
  have i1 : (i : Int) < n := by omega
  have i2 : (j : Int) < n := by omega
  have i3 : (0 : Int) ≤ i := by omega
  have i4 : (0 : Int) ≤ j := by omega
  obtain ⟨tx, hx0⟩ : ∃ t, x.R[0]? = some t := by
    have := hx.ne
    cases h : x.R with
    | nil => exact absurd h this
    | cons t r => exact ⟨t, rfl⟩
  obtain ⟨ty, hy0⟩ : ∃ t, y.R[0]? = some t := by
    have := hy.ne
    cases h : y.R with
    | nil => exact absurd h this
    | cons t r => exact ⟨t, rfl⟩
  obtain ⟨⟨xb, xo, e1, xc⟩, xk, _⟩ := hx.ents 0 tx hx0
  obtain ⟨⟨yb, yo, e2, yc⟩, yk, _⟩ := hy.ents 0 ty hy0
  have hxl : 1 ≤ x.R.length := (List.getElem?_eq_some_iff.1 hx0).1
  have hyl : 1 ≤ y.R.length := (List.getElem?_eq_some_iff.1 hy0).1
  have j1 : (0 : Int) < x.R.length := by omega
  have j2 : (0 : Int) < y.R.length := by omega
  cases e1
  cases e2
  rw [Nat.zero_mul, Nat.add_zero] at xc yc
  have x0 : w.cell? ⟨x.b, x.off, none⟩ = some (.slice tx.ka tx.e.key.length tx.kc) := xc 0 _ rfl
  have x1 : w.cell? ⟨x.b, x.off + 1, none⟩ = some (.int .u64 (tx.e.seq : Nat)) := xc 1 _ rfl
  have x2 : w.cell? ⟨x.b, x.off + 2, none⟩ = some (.int .i64 tx.e.kind) := xc 2 _ rfl
  have x3 : w.cell? ⟨x.b, x.off + 3, none⟩ = some (.slice tx.va tx.e.val.length tx.vc) := xc 3 _ rfl
  have y0 : w.cell? ⟨y.b, y.off, none⟩ = some (.slice ty.ka ty.e.key.length ty.kc) := yc 0 _ rfl
  have y1 : w.cell? ⟨y.b, y.off + 1, none⟩ = some (.int .u64 (ty.e.seq : Nat)) := yc 1 _ rfl
  have y2 : w.cell? ⟨y.b, y.off + 2, none⟩ = some (.int .i64 ty.e.kind) := yc 2 _ rfl
  have y3 : w.cell? ⟨y.b, y.off + 3, none⟩ = some (.slice ty.va ty.e.val.length ty.vc) := yc 3 _ rfl
  have HV := hide (show decide (orN (cmpE (tx.e.key, tx.e.seq) (ty.e.key, ty.e.seq)) (cmpN x.no y.no) < 0) = decide (ltH x y) by
    rw [ltH_val]
    refine decide_eq_decide.2 ?_
    unfold ltH Hd.top
    rw [hx0, hy0]
    exact Iff.rfl)
  have HC := hide (compare_any tx.ka ty.ka tx.va ty.va tx.e.key.length tx.kc tx.e.val.length tx.vc ty.e.key.length ty.kc ty.e.val.length ty.vc tx.e.kind ty.e.kind tx.e.seq ty.e.seq tx.e.key ty.e.key w.drew (xk.drewN 1) (yk.drewN 1))
  have hxc := hx.cap
  have hyc := hy.cap
  obtain ⟨xb, xo, xcp, xR, xno⟩ := x
  obtain ⟨yb, yo, ycp, yR, yno⟩ := y
  simp only at *
  generalize xR.length = xl at *
  generalize yR.length = yl at *
  obtain ⟨tka, tkc, tva, tvc, te⟩ := tx
  obtain ⟨ska, skc, sva, svc, se⟩ := ty
  simp only at *
  generalize te.key.length = tkn at *
  generalize te.val.length = tvn at *
  generalize se.key.length = skn at *
  generalize se.val.length = svn at *
  generalize hq1 : cmpE (te.key, te.seq) (se.key, se.seq) = q1 at *
  generalize hq2 : cmpN xno yno = q2 at *
  generalize te.seq = ts at *
  generalize se.seq = ss at *
  generalize te.kind = tk at *
  generalize se.kind = sk at *
  have HQ2 := hide hq2
  clear hrow hn hi hj hx hy xc yc xk yk hx0 hy0 hq1 hq2
  go_enter Try.func101, Try.ntmps101
  go_wp2_with fail
  go_region_held (fun w' => (w'.cell? ⟨g, i * 2, none⟩ = some (.slice (some ⟨xb, xo, none⟩) xl xcp) ∧ w'.cell? ⟨g, i * 2 + 1, none⟩ = some (.int .i64 (xno : Nat)) ∧ w'.cell? ⟨g, j * 2, none⟩ = some (.slice (some ⟨yb, yo, none⟩) yl ycp) ∧ w'.cell? ⟨g, j * 2 + 1, none⟩ = some (.int .i64 (yno : Nat))) ∧
     (w'.cell? ⟨xb, xo, none⟩ = some (.slice tka tkn tkc) ∧ w'.cell? ⟨xb, xo + 1, none⟩ = some (.int .u64 (ts : Nat)) ∧ w'.cell? ⟨xb, xo + 2, none⟩ = some (.int .i64 tk) ∧ w'.cell? ⟨xb, xo + 3, none⟩ = some (.slice tva tvn tvc)) ∧
     (w'.cell? ⟨yb, yo, none⟩ = some (.slice ska skn skc) ∧ w'.cell? ⟨yb, yo + 1, none⟩ = some (.int .u64 (ss : Nat)) ∧ w'.cell? ⟨yb, yo + 2, none⟩ = some (.int .i64 sk) ∧ w'.cell? ⟨yb, yo + 3, none⟩ = some (.slice sva svn svc)))
    (first | (with_reducible exact ⟨⟨a0', a1', b0', b1'⟩, ⟨x0', x1', x2', x3'⟩, ⟨y0', y1', y2', y3'⟩⟩) | (simp only [World.cell?_drew]; with_reducible exact ⟨⟨a0, a1, b0, b1⟩, ⟨x0, x1, x2, x3⟩, ⟨y0, y1, y2, y3⟩⟩) | (exact ⟨⟨alloc_keep a0' _, alloc_keep a1' _, alloc_keep b0' _, alloc_keep b1' _⟩, ⟨alloc_keep x0' _, alloc_keep x1' _, alloc_keep x2' _, alloc_keep x3' _⟩, ⟨alloc_keep y0' _, alloc_keep y1' _, alloc_keep y2' _, alloc_keep y3' _⟩⟩)) (first
    | (go_at_call 48; refine HC.out.mono ?_; rintro e w1 ⟨rfl, hb1⟩; have t1 := (Turns.refl (fun _ => False) w).drew.trans (Turns.of_below hb1 (fun _ => False)); have a0' := t1.cell a0 (fun x => x); have a1' := t1.cell a1 (fun x => x); have b0' := t1.cell b0 (fun x => x); have b1' := t1.cell b1 (fun x => x); have x0' := t1.cell x0 (fun x => x); have x1' := t1.cell x1 (fun x => x); have x2' := t1.cell x2 (fun x => x); have x3' := t1.cell x3 (fun x => x); have y0' := t1.cell y0 (fun x => x); have y1' := t1.cell y1 (fun x => x); have y2' := t1.cell y2 (fun x => x); have y3' := t1.cell y3 (fun x => x); have T1 := hide t1; clear hb1 t1)
    | (go_at_call 103; refine (cmpI_any xno yno _).mono ?_; rintro e w2 ⟨rfl, rfl⟩; rw [HQ2.out])
    | (go_at_call 64; refine (or_two w2.heap.size q1 q2 _ (by go_cell) (by go_cell)).mono ?_; rintro e w3 ⟨rfl, rfl⟩))
  all_goals go_wp2_with fail
  all_goals go_ret
  all_goals exact ⟨congrArg Ending.returned (congrArg Value.bool HV.out), (T1.out.alloc _).below (Nat.le_refl _) (fun _ x => x.elim)⟩
end Go.Proofs.Ytpgligfolecieaa

/-
  Two heads change their places.
-/
namespace Go.Proofs.Ytpgligfolecieaa
open Go.RowKit
set_option maxRecDepth 100000
set_option maxHeartbeats 4000000
def Two (u : World) (g i j xb xo xl xc xn yb yo yl yc yn : Nat) : Prop := (u.cell? ⟨g, i * 2, none⟩ = some (.slice (some ⟨xb, xo, none⟩) xl xc) ∧ u.cell? ⟨g, i * 2 + 1, none⟩ = some (.int .i64 (xn : Nat))) ∧ u.cell? ⟨g, j * 2, none⟩ = some (.slice (some ⟨yb, yo, none⟩) yl yc) ∧ u.cell? ⟨g, j * 2 + 1, none⟩ = some (.int .i64 (yn : Nat))
theorem RowC.set {w : World} {g e room : Nat} {cells : List Value} (h : RowC w g e room cells) (k : Nat) (v : Value) : RowC (w.setCell ⟨g, k, none⟩ v) g e room (cells.set k v) := by
  obtain ⟨cs, h1, h2, h3⟩ := h
  refine ⟨_, heap_setCell_same w g k cs e v h1, by simpa using h2, fun m hm => ?_⟩
  rw [List.length_set] at hm
  rw [Array.getElem?_setIfInBounds, List.getElem?_set]
  have h4 := h3 m hm
  have hms : m < cs.size := by
    rcases Nat.lt_or_ge m cs.size with l | l
    · exact l
    · rw [Array.getElem?_eq_none l, List.getElem?_eq_getElem hm] at h4; cases h4
  by_cases e : k = m
  · subst e; simp [hms, hm]
  · simp [e, h4]
theorem hdCells_set : ∀ (L : List Hd) (i : Nat) (y : Hd), i < L.length → hdCells (L.set i y) = ((hdCells L).set (i * 2) y.sv).set (i * 2 + 1) (.int .i64 (y.no : Nat))
  | x :: r, 0, y, _ => rfl
  | x :: r, i + 1, y, h => by
    have := hdCells_set r i y (by simpa using h)
    show [x.sv, .int .i64 (x.no : Nat)] ++ hdCells (r.set i y) = (([x.sv, .int .i64 (x.no : Nat)] ++ hdCells r).set ((i + 1) * 2) y.sv).set ((i + 1) * 2 + 1) _
    rw [this, List.set_append_right _ _ (by simp; omega), List.set_append_right _ _ (by simp; omega)]
    rw [show (i + 1) * 2 - [x.sv, Value.int .i64 (x.no : Nat)].length = i * 2 by simp; omega, show (i + 1) * 2 + 1 - [x.sv, Value.int .i64 (x.no : Nat)].length = i * 2 + 1 by simp; omega]
theorem HRow.set {w : World} {g c : Nat} {L : List Hd} (h : HRow w g c L) (i : Nat) (y : Hd) (hi : i < L.length) : HRow ((w.setCell ⟨g, i * 2, none⟩ y.sv).setCell ⟨g, i * 2 + 1, none⟩ (.int .i64 (y.no : Nat))) g c (L.set i y) :=
  ⟨by rw [List.length_set]; exact h.1, by rw [hdCells_set L i y hi]; exact (h.2.set _ _).set _ _⟩
theorem swap_any (g c n i j : Nat) (L : List Hd) (x y : Hd) (w : World) (hrow : HRow w g c L) (hn : n = L.length) (hi : L[i]? = some x) (hj : L[j]? = some y) :
    Calls Try.prog 102 #[.slice (some ⟨g, 0, none⟩) n c, .int .i64 (i : Nat), .int .i64 (j : Nat)] w fun e w' => (∃ v, e = .returned v) ∧ HRow w' g c (Hp.swapL L i j x y) ∧ Turns (fun k => k = g) w w' := by
  obtain ⟨x0, x1⟩ := (show HRow w.drew g c L from hrow).at hi
  obtain ⟨y0, y1⟩ := (show HRow w.drew g c L from hrow).at hj
  have hiL := (List.getElem?_eq_some_iff.1 hi).1
  have hjL := (List.getElem?_eq_some_iff.1 hj).1
  have i1 : (i : Int) < n := by omega
  have i2 : (j : Int) < n := by omega
  have i3 : (0 : Int) ≤ i := by omega
  have i4 : (0 : Int) ≤ j := by omega
  have z0 := (show HRow w.drew g c L from hrow).frozen (i * 2)
  have z1 := (show HRow w.drew g c L from hrow).frozen (i * 2 + 1)
  obtain ⟨xb, xo, xc, xR, xn⟩ := x
  obtain ⟨yb, yo, yc, yR, yn⟩ := y
  have SW := hide (show Hp.swapL L i j ⟨xb, xo, xc, xR, xn⟩ ⟨yb, yo, yc, yR, yn⟩ = (L.set i ⟨yb, yo, yc, yR, yn⟩).set j ⟨xb, xo, xc, xR, xn⟩ from rfl)
  rw [SW.out]
  simp only at x0 x1 y0 y1
  generalize hxl : xR.length = xl at *
  generalize hyl : yR.length = yl at *
  have HXL := hide hxl
  have HYL := hide hyl
  have SK := hide (show Two w.drew g i j xb xo xl xc xn yb yo yl yc yn from ⟨⟨x0, x1⟩, y0, y1⟩)
  clear hi hj hxl hyl
  go_enter Try.func102, Try.ntmps102
  go_upto_region 0 with (fail)
  refine wp_region_z_drew 13 (S := fun u => Two u g i j xb xo xl xc xn yb yo yl yc yn) (by kernel_rfl) SK.out (fun _ => ?_)
  change wpAnyZ _ _ _ _ _ _ 16 (Array.replicate 16 false) _ _
  generalize hV : w.drew = V at *
  have hR1 : HRow V g c L := by rw [← hV]; exact hrow
  have hT1 : Turns (fun k => k = g) w V := by rw [← hV]; exact (Turns.refl _ w).drew
  have R1 := hide hR1
  have T1 := hide hT1
  clear hR1 hT1 hV hrow
  refine wpAnyZ_late (i := 0) (oi := { dst := some 6, op := Op.move (Operand.tmp 0), type := 86, pos := "heads.go:81", after := #[], guard := none }) (v := .slice (some ⟨g, 0, none⟩) n c) rfl (by kernel_rfl) (by kernel_rfl) (by kernel_rfl) (by kernel_rfl) (fun _ _ _ h => h) (Or.inl ⟨by rfl, ?_⟩) (.inr SK.out) ?_
  · rintro w -
    go_simp
  simp only [Act.put, List.setIfInBounds_toArray, List.set_cons_zero, List.set_cons_succ]
  refine wpAnyZ_late (i := 1) (oi := { dst := some 7, op := Op.move (Operand.tmp 1), type := 3, pos := "heads.go:81", after := #[], guard := none }) (v := .int .i64 (i : Nat)) rfl (by kernel_rfl) (by kernel_rfl) (by kernel_rfl) (by kernel_rfl) (fun _ _ _ h => h) (Or.inl ⟨by rfl, ?_⟩) (.inr SK.out) ?_
  · rintro w -
    go_simp
  simp only [Act.put, List.setIfInBounds_toArray, List.set_cons_zero, List.set_cons_succ]
  refine wpAnyZ_late (i := 2) (oi := { dst := some 8, op := Op.move (Operand.tmp 0), type := 86, pos := "heads.go:81", after := #[{ on := 13, ground := Ground.gcOnly Departure.lateStores }], guard := none }) (v := .slice (some ⟨g, 0, none⟩) n c) rfl (by kernel_rfl) (by kernel_rfl) (by kernel_rfl) (by kernel_rfl) (fun _ _ _ h => h) (Or.inl ⟨by rfl, ?_⟩) (.inr SK.out) ?_
  · rintro w -
    go_simp
  simp only [Act.put, List.setIfInBounds_toArray, List.set_cons_zero, List.set_cons_succ]
  refine wpAnyZ_late (i := 3) (oi := { dst := some 9, op := Op.move (Operand.tmp 2), type := 3, pos := "heads.go:81", after := #[{ on := 13, ground := Ground.gcOnly Departure.lateStores }], guard := none }) (v := .int .i64 (j : Nat)) rfl (by kernel_rfl) (by kernel_rfl) (by kernel_rfl) (by kernel_rfl) (fun _ _ _ h => h) (Or.inl ⟨by rfl, ?_⟩) (.inr SK.out) ?_
  · rintro w -
    go_simp
  simp only [Act.put, List.setIfInBounds_toArray, List.set_cons_zero, List.set_cons_succ]
  refine wpAnyZ_late (i := 4) (oi := { dst := some 10, op := Op.move (Operand.tmp 0), type := 86, pos := "heads.go:81", after := #[], guard := none }) (v := .slice (some ⟨g, 0, none⟩) n c) rfl (by kernel_rfl) (by kernel_rfl) (by kernel_rfl) (by kernel_rfl) (fun _ _ _ h => h) (Or.inl ⟨by rfl, ?_⟩) (.inr SK.out) ?_
  · rintro w -
    go_simp
  simp only [Act.put, List.setIfInBounds_toArray, List.set_cons_zero, List.set_cons_succ]
  refine wpAnyZ_late (i := 5) (oi := { dst := some 11, op := Op.move (Operand.tmp 2), type := 3, pos := "heads.go:81", after := #[], guard := none }) (v := .int .i64 (j : Nat)) rfl (by kernel_rfl) (by kernel_rfl) (by kernel_rfl) (by kernel_rfl) (fun _ _ _ h => h) (Or.inl ⟨by rfl, ?_⟩) (.inr SK.out) ?_
  · rintro w -
    go_simp
  simp only [Act.put, List.setIfInBounds_toArray, List.set_cons_zero, List.set_cons_succ]
  refine wpAnyZ_late (i := 6) (oi := { dst := some 12, op := Op.indexAddr 86 (Operand.tmp 10) (Operand.tmp 11), type := 0, pos := "heads.go:81", after := #[{ on := 4, ground := Ground.data }, { on := 5, ground := Ground.data }], guard := none }) (v := .pointer (some ⟨g, j * 2, none⟩)) rfl (by kernel_rfl) (by kernel_rfl) (by kernel_rfl) (by kernel_rfl) (fun _ _ _ h => h) (Or.inl ⟨by rfl, ?_⟩) (.inr SK.out) ?_
  · rintro w -
    go_simp
  simp only [Act.put, List.setIfInBounds_toArray, List.set_cons_zero, List.set_cons_succ]
  refine wpAnyZ_take (i := 7) (oi := { dst := some 13, op := Op.load 94 (Operand.tmp 12), type := 94, pos := "heads.go:81", after := #[{ on := 6, ground := Ground.data }], guard := none }) (v := .agg #[.slice (some ⟨yb, yo, none⟩) yl yc, .int .i64 (yn : Nat)]) rfl (by kernel_rfl) (by kernel_rfl) (by kernel_rfl) (by kernel_rfl) (fun _ _ _ h => h) (Or.inl ⟨by rfl, ?_⟩) SK.out ?_
  · rintro w ⟨⟨x0, x1⟩, y0, y1⟩
    go_simp
  simp only [Act.put, List.setIfInBounds_toArray, List.set_cons_zero, List.set_cons_succ]
  refine wpAnyZ_late (i := 8) (oi := { dst := some 14, op := Op.move (Operand.tmp 0), type := 86, pos := "heads.go:81", after := #[], guard := none }) (v := .slice (some ⟨g, 0, none⟩) n c) rfl (by kernel_rfl) (by kernel_rfl) (by kernel_rfl) (by kernel_rfl) (fun _ _ _ h => h) (Or.inl ⟨by rfl, ?_⟩) (.inr SK.out) ?_
  · rintro w -
    go_simp
  simp only [Act.put, List.setIfInBounds_toArray, List.set_cons_zero, List.set_cons_succ]
  refine wpAnyZ_late (i := 9) (oi := { dst := some 15, op := Op.move (Operand.tmp 1), type := 3, pos := "heads.go:81", after := #[], guard := none }) (v := .int .i64 (i : Nat)) rfl (by kernel_rfl) (by kernel_rfl) (by kernel_rfl) (by kernel_rfl) (fun _ _ _ h => h) (Or.inl ⟨by rfl, ?_⟩) (.inr SK.out) ?_
  · rintro w -
    go_simp
  simp only [Act.put, List.setIfInBounds_toArray, List.set_cons_zero, List.set_cons_succ]
  refine wpAnyZ_late (i := 10) (oi := { dst := some 16, op := Op.indexAddr 86 (Operand.tmp 14) (Operand.tmp 15), type := 0, pos := "heads.go:81", after := #[{ on := 8, ground := Ground.data }, { on := 9, ground := Ground.data }], guard := none }) (v := .pointer (some ⟨g, i * 2, none⟩)) rfl (by kernel_rfl) (by kernel_rfl) (by kernel_rfl) (by kernel_rfl) (fun _ _ _ h => h) (Or.inl ⟨by rfl, ?_⟩) (.inr SK.out) ?_
  · rintro w -
    go_simp
  simp only [Act.put, List.setIfInBounds_toArray, List.set_cons_zero, List.set_cons_succ]
  refine wpAnyZ_take (i := 11) (oi := { dst := some 17, op := Op.load 94 (Operand.tmp 16), type := 94, pos := "heads.go:81", after := #[{ on := 10, ground := Ground.data }], guard := none }) (v := .agg #[.slice (some ⟨xb, xo, none⟩) xl xc, .int .i64 (xn : Nat)]) rfl (by kernel_rfl) (by kernel_rfl) (by kernel_rfl) (by kernel_rfl) (fun _ _ _ h => h) (Or.inl ⟨by rfl, ?_⟩) SK.out ?_
  · rintro w ⟨⟨x0, x1⟩, y0, y1⟩
    go_simp
  simp only [Act.put, List.setIfInBounds_toArray, List.set_cons_zero, List.set_cons_succ]
  refine wpAnyZ_late (i := 12) (oi := { dst := some 18, op := Op.indexAddr 86 (Operand.tmp 6) (Operand.tmp 7), type := 0, pos := "heads.go:81", after := #[{ on := 0, ground := Ground.data }, { on := 1, ground := Ground.data }, { on := 0, ground := Ground.phase }, { on := 1, ground := Ground.phase }, { on := 2, ground := Ground.textOnly Departure.lateStores }, { on := 3, ground := Ground.textOnly Departure.lateStores }, { on := 4, ground := Ground.phase }, { on := 5, ground := Ground.phase }, { on := 6, ground := Ground.phase }, { on := 7, ground := Ground.phase }, { on := 8, ground := Ground.textOnly Departure.lateStores }, { on := 9, ground := Ground.textOnly Departure.lateStores }, { on := 10, ground := Ground.textOnly Departure.lateStoresUnsure }, { on := 11, ground := Ground.phase }], guard := none }) (v := .pointer (some ⟨g, i * 2, none⟩)) rfl (by kernel_rfl) (by kernel_rfl) (by kernel_rfl) (by kernel_rfl) (fun _ _ _ h => h) (Or.inl ⟨by rfl, ?_⟩) (.inr SK.out) ?_
  · rintro w -
    go_simp
  simp only [Act.put, List.setIfInBounds_toArray, List.set_cons_zero, List.set_cons_succ]
  refine wpAnyZ_ready (rs := [13]) (by kernel_rfl) (by simp) ?_
  refine AllReadyZ.free rfl (by kernel_rfl) (fun K hK => ?_) AllReadyZ.nil
  go_simp
  refine hK.out _ _ ?_
  clear hK K
  have hR2 := R1.out.set i ⟨yb, yo, yc, yR, yn⟩ hiL
  have hT2 := T1.out.trans (turns_cell (turns_cell (Turns.refl (fun k => k = g) V) (i * 2) (.slice (some ⟨yb, yo, none⟩) yl yc)) (i * 2 + 1) (.int .i64 (yn : Nat)))
  simp only [Hd.sv, HYL.out] at hR2
  obtain ⟨q, hq⟩ : ∃ q, (L.set i ⟨yb, yo, yc, yR, yn⟩)[j]? = some q := ⟨_, List.getElem?_eq_getElem (by rw [List.length_set]; exact hjL)⟩
  obtain ⟨v0, v1⟩ := hR2.at hq
  have z2 := hR2.frozen (j * 2)
  have z3 := hR2.frozen (j * 2 + 1)
  have R2 := hide hR2
  have T2 := hide hT2
  clear hR2 hT2 hq x0 x1 y0 y1 z0 z1
  generalize (V.setCell ⟨g, i * 2, none⟩ (.slice (some ⟨yb, yo, none⟩) yl yc)).setCell ⟨g, i * 2 + 1, none⟩ (.int .i64 (yn : Nat)) = V2 at *
  refine wpAnyZ_late (i := 14) (oi := { dst := some 19, op := Op.indexAddr 86 (Operand.tmp 8) (Operand.tmp 9), type := 0, pos := "heads.go:81", after := #[{ on := 2, ground := Ground.data }, { on := 3, ground := Ground.data }, { on := 0, ground := Ground.phase }, { on := 1, ground := Ground.phase }, { on := 2, ground := Ground.phase }, { on := 3, ground := Ground.phase }, { on := 4, ground := Ground.phase }, { on := 5, ground := Ground.phase }, { on := 6, ground := Ground.phase }, { on := 7, ground := Ground.phase }, { on := 8, ground := Ground.phase }, { on := 9, ground := Ground.phase }, { on := 10, ground := Ground.phase }, { on := 11, ground := Ground.phase }, { on := 12, ground := Ground.phase }, { on := 13, ground := Ground.phase }], guard := none }) (v := .pointer (some ⟨g, j * 2, none⟩)) rfl (by kernel_rfl) (by kernel_rfl) (by kernel_rfl) (by kernel_rfl) (fun _ _ _ h => h) (Or.inl ⟨by rfl, ?_⟩) (.inl (by kernel_rfl)) ?_
  · rintro w -
    go_simp
  simp only [Act.put, List.setIfInBounds_toArray, List.set_cons_zero, List.set_cons_succ]
  refine wpAnyZ_ready (rs := [15]) (by kernel_rfl) (by simp) ?_
  refine AllReadyZ.free rfl (by kernel_rfl) (fun K hK => ?_) AllReadyZ.nil
  go_simp
  refine hK.out _ _ ?_
  clear hK K
  refine wpAnyZ_done (by kernel_rfl) ?_ _
  go_wp2_with fail
  go_end0
  have hR3 := R2.out.set j ⟨xb, xo, xc, xR, xn⟩ (by rw [List.length_set]; exact hjL)
  simp only [Hd.sv, HXL.out] at hR3
  refine ⟨⟨_, rfl⟩, hR3, T2.out.trans (turns_cell (turns_cell (Turns.refl (fun k => k = g) V2) _ _) _ _)⟩
end Go.Proofs.Ytpgligfolecieaa
