import Derived.Test.YtkmcdjbadngfgaaM08
import Derived.Test.YtkmcdjbadngfgaaM02
/-
  Rows of files of one's own; lists of files of one's own; copies of slices.
-/
namespace Go.Proofs.Ytkmcdjbadngfgaa
open Go.RowKit
set_option maxRecDepth 100000
set_option maxHeartbeats 4000000
theorem t37_size : Try.t29.size = 6 := by kernel_rfl
theorem t37_bytes : Try.t29.bytes = 80 := by kernel_rfl
theorem t37_zero : Try.t29.zero = some (.agg #[.int .u64 0, .int .i64 0, .slice none 0 0, .slice none 0 0, .int .i64 0, .int .u64 0]) := by kernel_rfl
theorem t50_size : Try.t31.size = 1 := by kernel_rfl
theorem t50_bytes : Try.t31.bytes = 24 := by kernel_rfl
theorem t50_zero : Try.t31.zero = some (.slice none 0 0) := by kernel_rfl
theorem info50 : Try.prog.info? 31 = some Try.t31 := by kernel_rfl
def flCells (R : List Tf) : List Value := R.flatMap Tf.cells
theorem Tf.cells_length (x : Tf) : x.cells.length = 6 := rfl
theorem flCells_length (R : List Tf) : (flCells R).length = R.length * 6 := by
  induction R with
  | nil => rfl
  | cons x r ih => simp only [flCells, List.flatMap_cons, List.length_append, List.length_cons, Tf.cells_length] at ih ⊢; omega
theorem flCells_append (R R' : List Tf) : flCells (R ++ R') = flCells R ++ flCells R' := by simp [flCells]
theorem flCells_at : ∀ (R : List Tf) (k : Nat) (x : Tf), R[k]? = some x → ∀ j, j < 6 → (flCells R)[k * 6 + j]? = x.cells[j]?
  | [], k, x, h, _, _ => by simp at h
  | y :: r, 0, x, h, j, hj => by
    obtain rfl : y = x := by simpa using h
    show (y.cells ++ flCells r)[0 * 6 + j]? = _
    rw [List.getElem?_append_left (by rw [Tf.cells_length]; omega), Nat.zero_mul, Nat.zero_add]
  | y :: r, k + 1, x, h, j, hj => by
    show (y.cells ++ flCells r)[(k + 1) * 6 + j]? = _
    rw [List.getElem?_append_right (by rw [Tf.cells_length]; omega), Tf.cells_length, show (k + 1) * 6 + j - 6 = k * 6 + j by omega]
    exact flCells_at r k x (by simpa using h) j hj
theorem flCells_inv (R : List Tf) (i : Nat) (u : Value) (h : (flCells R)[i]? = some u) : ∃ x, R[i / 6]? = some x ∧ x.cells[i % 6]? = some u := by
  have hi : i < R.length * 6 := by rw [← flCells_length]; exact (List.getElem?_eq_some_iff.1 h).1
  have hq : i / 6 < R.length := by omega
  refine ⟨R[i / 6], List.getElem?_eq_getElem hq, ?_⟩
  rw [← flCells_at R (i / 6) _ (List.getElem?_eq_getElem hq) (i % 6) (by omega), show i / 6 * 6 + i % 6 = i by omega, h]
theorem Tf.cells_one (x : Tf) (u : Value) (h : u ∈ x.cells) : u.oneCell' = true := by
  simp only [Tf.cells, Tf.lv, Tf.mv, List.mem_cons, List.not_mem_nil, or_false] at h
  rcases h with rfl | rfl | rfl | rfl | rfl | rfl <;> rfl
theorem flCells_one (R : List Tf) (u : Value) (h : u ∈ flCells R) : u.oneCell' = true := by
  obtain ⟨x, _, hx⟩ := List.mem_flatMap.1 h
  exact x.cells_one u hx
/-- Files in a row of one's own. -/
theorem fils_of_row {w : World} {g c : Nat} {R : List Tf} (h : RowC w g 29 (c * 6) (flCells R)) (hb : ∀ x ∈ R, FB w x) : Fils w (some ⟨g, 0, none⟩) R := fun k x hx => by
  obtain ⟨cs, h1, h2, h3⟩ := h
  refine ⟨⟨g, 0, rfl, fun j u hu => ?_⟩, hb x (List.mem_of_getElem? hx)⟩
  have hj : j < 6 := (List.getElem?_eq_some_iff.1 hu).1
  have hk := (List.getElem?_eq_some_iff.1 hx).1
  rw [Nat.zero_add, cell_of_row w g _ cs 29 (0, 0) h1, h3 _ (by rw [flCells_length]; omega), flCells_at R k x hx j hj, hu]
theorem src_of_fils {w : World} {a : Option Addr} {R : List Tf} {c : Nat} (h : Fils w a R) : Src Try.prog Try.t29.size 31 (.slice a R.length c) R.length (flCells R) w := by
  cases a with
  | none =>
    obtain rfl : R = [] := by
      cases R with
      | nil => rfl
      | cons x r => obtain ⟨⟨b, off, e, _⟩, _⟩ := h 0 x rfl; cases e
    exact Src.ofNil w Try.underlying31 c
  | some ad =>
    refine Src.ofSlice w Try.underlying31 ad _ c _ (by rw [flCells_length, t37_size]) (fun j u hu => ?_) (flCells_one R)
    obtain ⟨x, hx, hu2⟩ := flCells_inv R j u hu
    obtain ⟨⟨b, off, ha, hc⟩, _⟩ := h _ x hx
    obtain rfl : ad = ⟨b, off, none⟩ := by simpa using ha
    rw [Go.WideShapes.add_plain, ← hc _ u hu2]
    congr 2
    omega
def lvCells (L : List Lv) : List Value := L.map fun x => .slice x.a x.l.length x.c
theorem src_of_levs {w : World} {a : Option Addr} {L : List Lv} {c : Nat} (h : Levs w a L) : Src Try.prog Try.t31.size 22 (.slice a L.length c) L.length (lvCells L) w := by
  cases a with
  | none =>
    obtain rfl : L = [] := by
      cases L with
      | nil => rfl
      | cons x r => obtain ⟨⟨b, off, e, _⟩, _⟩ := h 0 x rfl; cases e
    exact Src.ofNil w Try.underlying22 c
  | some ad =>
    refine Src.ofSlice w Try.underlying22 ad _ c _ (by simp [lvCells, t50_size]) (fun j u hu => ?_) (fun u hu => ?_)
    · have hj : j < L.length := by have := (List.getElem?_eq_some_iff.1 hu).1; simpa [lvCells] using this
      obtain ⟨⟨b, off, ha, hc⟩, _⟩ := h j L[j] (List.getElem?_eq_getElem hj)
      obtain rfl : ad = ⟨b, off, none⟩ := by simpa using ha
      rw [Go.WideShapes.add_plain, hc]
      simpa [lvCells, hj] using hu
    · obtain ⟨x, _, rfl⟩ := List.mem_map.1 hu
      rfl
theorem nil_eql50 (a : Option Addr) (n c : Nat) (w : World) : (binOp .eql 31 (.slice a n c) (.slice none 0 0)).run Try.prog w = .ok (.bool a.isNone) w := by
  cases a <;> kernel_rfl
theorem nil_eql22 (a : Option Addr) (n c : Nat) (w : World) : (binOp .eql 22 (.slice a n c) (.slice none 0 0)).run Try.prog w = .ok (.bool a.isNone) w := by
  cases a <;> kernel_rfl
/-- A row of files of one's own, or none. -/
def RowOk (w : World) (B : Nat) (a : Option Addr) (c : Nat) (R : List Tf) : Prop := (a = none ∧ R = [] ∧ c = 0) ∨ ∃ g, a = some ⟨g, 0, none⟩ ∧ B ≤ g ∧ R.length ≤ c ∧ RowC w g 29 (c * 6) (flCells R)
/-- Lists of one's own: the block G of their places, each row apart from every other, each file's bytes in blocks of their own kind. -/
structure DR (w : World) (B G N : Nat) (L : List Lv) : Prop where
  head : ∃ cs : Array Value, w.heap[G]? = some (.cells cs 31 (0, 0)) ∧ N ≤ cs.size ∧ ∀ (k : Nat) (x : Lv), L[k]? = some x → cs[k]? = some (.slice x.a x.l.length x.c)
  hG : B ≤ G
  rows : ∀ (k : Nat) (x : Lv), L[k]? = some x → RowOk w B x.a x.c x.l
  apart : ∀ (i j : Nat) (x y : Lv), i ≠ j → L[i]? = some x → L[j]? = some y → ∀ g, x.a = some ⟨g, 0, none⟩ → y.a ≠ some ⟨g, 0, none⟩
  files : ∀ x ∈ L, ∀ y ∈ x.l, FT w B y
theorem FT.keep {S : Nat → Prop} {w w' : World} {B : Nat} {y : Tf} (h : FT w B y) (t : Turns S w w') (hS : ∀ k, S k → B ≤ k → ∀ cs z, ¬ w.heap[k]? = some (.cells cs 5 z)) : FT w' B y := by
  have hl : ∀ ad, y.la = some ad → ¬ S ad.block := fun ad e hs => by obtain ⟨h1, cs, z, h2⟩ := h.l ad e; exact hS _ hs h1 cs z h2
  have hm : ∀ ad, y.ma = some ad → ¬ S ad.block := fun ad e hs => by obtain ⟨h1, cs, z, h2⟩ := h.m ad e; exact hS _ hs h1 cs z h2
  refine ⟨⟨h.fb.1.turns t fun a n c e => hl a (Value.slice.inj e).1, h.fb.2.turns t fun a n c e => hm a (Value.slice.inj e).1⟩, fun ad e => ?_, fun ad e => ?_⟩
  · obtain ⟨h1, cs, z, h2⟩ := h.l ad e; exact ⟨h1, cs, z, t.heap h2 (hl ad e)⟩
  · obtain ⟨h1, cs, z, h2⟩ := h.m ad e; exact ⟨h1, cs, z, t.heap h2 (hm ad e)⟩
theorem FT.quiet {w w' : World} {B : Nat} {y : Tf} (h : FT w B y) (t : Turns (fun _ => False) w w') : FT w' B y := h.keep t fun _ x => x.elim
theorem FT.mono {w : World} {B B' : Nat} {y : Tf} (h : FT w B y) (hB : B' ≤ B) : FT w B' y := ⟨h.fb, fun ad e => ⟨Nat.le_trans hB (h.l ad e).1, (h.l ad e).2⟩, fun ad e => ⟨Nat.le_trans hB (h.m ad e).1, (h.m ad e).2⟩⟩
theorem RowOk.keep {S : Nat → Prop} {w w' : World} {B : Nat} {a : Option Addr} {c : Nat} {R : List Tf} (h : RowOk w B a c R) (t : Turns S w w') (hS : ∀ g, a = some ⟨g, 0, none⟩ → ¬ S g) : RowOk w' B a c R := by
  rcases h with h | ⟨g, h1, h2, h3, h4⟩
  · exact .inl h
  · exact .inr ⟨g, h1, h2, h3, h4.turns t (hS g h1)⟩
theorem DR.quiet {w w' : World} {B G N : Nat} {L : List Lv} (h : DR w B G N L) (t : Turns (fun _ => False) w w') : DR w' B G N L :=
  ⟨by obtain ⟨cs, h1, h2⟩ := h.head; exact ⟨cs, t.heap h1 (fun x => x), h2⟩, h.hG, fun k x hx => (h.rows k x hx).keep t fun _ _ x => x, h.apart, fun x hx y hy => (h.files x hx y hy).quiet t⟩
theorem DR.levs {w : World} {B G N : Nat} {L : List Lv} (h : DR w B G N L) : Levs w (some ⟨G, 0, none⟩) L := fun k x hx => by
  obtain ⟨cs, h1, h2, h3⟩ := h.head
  refine ⟨⟨G, 0, rfl, by rw [Nat.zero_add, cell_of_row w G k cs 31 (0, 0) h1, h3 k x hx]⟩, ?_⟩
  have hm := List.mem_of_getElem? hx
  rcases h.rows k x hx with ⟨_, e, _⟩ | ⟨g, e, _, _, hr⟩
  · rw [e]; intro k y hy; simp at hy
  · rw [e]; exact fils_of_row hr fun y hy => (h.files x hm y hy).fb
end Go.Proofs.Ytkmcdjbadngfgaa

/-
  Adds in memory; one file more at the end of a list.
-/
namespace Go.Proofs.Ytkmcdjbadngfgaa
open Go.RowKit
set_option maxRecDepth 100000
set_option maxHeartbeats 4000000
theorem append_fl (w : World) (B : Nat) (a : Option Addr) (c : Nat) (R : List Tf) (h : RowOk w B a c R) (hB : B ≤ w.heap.size) (hlen : R.length ≤ 1000000) (y : Tf) (g cy : Nat) (hg : w.heap[g]? = some (.cells y.cells.toArray 29 (0, 0))) :
    ∃ (a' : Option Addr) (n' c' : Nat) (w' : World), (∀ ty, (Builtin.append_ #[31, 31] ty #[.slice a R.length c, .slice (some ⟨g, 0, none⟩) 1 cy]).run Try.prog w = .ok (.slice a' n' c') w') ∧ n' = (R ++ [y]).length ∧ RowOk w' B a' c' (R ++ [y]) ∧ Turns (fun j => a = some ⟨j, 0, none⟩) w w' ∧ (∀ q, a' = some ⟨q, 0, none⟩ → a = some ⟨q, 0, none⟩ ∨ w.heap.size ≤ q) := by
  have hsrc : Src Try.prog Try.t29.size 31 (.slice (some ⟨g, 0, none⟩) 1 cy) 1 y.cells w := Src.ofSlice w Try.underlying31 ⟨g, 0, none⟩ 1 cy _ (by rw [t37_size]; rfl) (fun j u hu => by
    rw [Go.WideShapes.add_plain, Nat.zero_add, cell_of_row w g j _ 29 (0, 0) hg]
    simpa using hu) (fun u hu => y.cells_one u hu)
  have hbase : (a = none ∧ R.length = 0 ∧ c = 0 ∧ 0 < 1) ∨ ∃ g, a = some ⟨g, 0, none⟩ ∧ B ≤ g ∧ R.length ≤ c ∧ RowC w g 29 (c * Try.t29.size) (flCells R) := by
    rcases h with ⟨rfl, rfl, rfl⟩ | ⟨g, e, h1, h2, h3⟩
    · exact .inl ⟨rfl, rfl, rfl, by omega⟩
    · exact .inr ⟨g, e, h1, h2, by rw [t37_size]; exact h3⟩
  obtain ⟨g', cp, w', hr, hg', hrow, hb, hcp, hin, hnew, hkeep⟩ := append_gen2 (P := Try.prog) w B 31 29 Try.t29 _ Try.underlying31 info37 t37_zero rfl a R.length c (flCells R) (by rw [t37_size, flCells_length]) _ 1 _ hsrc hB hbase (by rw [t37_bytes]; omega) (by omega)
  refine ⟨some ⟨g', 0, none⟩, _, cp, w', hr, by simp, .inr ⟨g', rfl, hg', by simpa using hcp, ?_⟩, ⟨hb.os, hb.tape, hb.output, hb.size, fun k hk hn => hkeep k hk hn⟩, fun q e => ?_⟩
  · rw [t37_size] at hrow
    rw [flCells_append]
    simpa [flCells] using hrow
  · cases e
    rcases Nat.lt_or_ge c (R.length + 1) with h1 | h1
    · exact .inr (by rw [hnew h1]; exact Nat.le_refl _)
    · exact .inl (hin h1).1
/-- Adds in memory. -/
def Adds (w : World) (a : Option Addr) (A : List (Int × Tf)) : Prop := ∀ (k : Nat) (d : Int × Tf), A[k]? = some d → (∃ b off, a = some ⟨b, off, none⟩ ∧ w.cell? ⟨b, off + k * 7, none⟩ = some (.int .i64 d.1) ∧ F6 w b (off + k * 7 + 1) d.2) ∧ FB w d.2
theorem Adds.quiet {w w' : World} {a : Option Addr} {A : List (Int × Tf)} (h : Adds w a A) (t : Turns (fun _ => False) w w') : Adds w' a A := fun k d hd => by
  obtain ⟨⟨b, off, e, c1, c2⟩, h3⟩ := h k d hd
  exact ⟨⟨b, off, e, t.cell c1 (fun x => x), c2.quiet t⟩, h3.quiet t⟩
def okAdds : (Nat → Option Int) → List (Int × Nat) → Bool
  | _, [] => true
  | m, d :: r => (m d.2).isNone && okAdds (upd m d.2 (some d.1)) r
def addNos (A : List (Int × Tf)) : List (Int × Nat) := A.map fun d => (d.1, d.2.f.no)
theorem okAdds_drop {m m' : Nat → Option Int} {A : List (Int × Tf)} {k : Nat} {d : Int × Tf} (hd : A[k]? = some d) (h : okAdds m (addNos A) = okAdds m' (addNos (A.drop k))) : okAdds m (addNos A) = ((m' d.2.f.no).isNone && okAdds (upd m' d.2.f.no (some d.1)) (addNos (A.drop (k + 1)))) := by
  have hk := (List.getElem?_eq_some_iff.1 hd).1
  have e : A[k] = d := by rw [List.getElem?_eq_getElem hk] at hd; exact Option.some.inj hd
  rw [h, List.drop_eq_getElem_cons hk, e]
  rfl
def goodLev (z : Int) : Bool := decide (0 ≤ z) && decide (z < 5)
theorem isLevel_any (z : Int) (w : World) : Calls Try.prog 75 #[.int .i64 z] w fun e w' => e = .returned (.bool (goodLev z)) ∧ w' = w := by
  by_cases h1 : 0 ≤ z
  · go_enter Try.func75, Try.ntmps75
    go_wp2_with fail
    go_ret
    exact ⟨congrArg Ending.returned (congrArg Value.bool (Bool.eq_iff_iff.2 (by simp [goodLev]; omega))), rfl⟩
  · go_enter Try.func75, Try.ntmps75
    go_wp2_with fail
    go_ret
    exact ⟨congrArg Ending.returned (congrArg Value.bool (Bool.eq_iff_iff.2 (by simp [goodLev]; omega))), rfl⟩
/-- The files of adds on a level. -/
def addsOn (k : Nat) (A : List (Int × Tf)) : List Fl := (A.filter fun d => decide (d.1 = (k : Int))).map fun d => d.2.f
theorem addsOn_take {A : List (Int × Tf)} {i k : Nat} {d : Int × Tf} (h : A[i]? = some d) : addsOn k (A.take (i + 1)) = addsOn k (A.take i) ++ if d.1 = (k : Int) then [d.2.f] else [] := by
  unfold addsOn
  rw [List.take_add_one, h, List.filter_append, List.map_append]
  congr 1
  by_cases e : d.1 = (k : Int) <;> simp [e]
end Go.Proofs.Ytkmcdjbadngfgaa

/-
  What an edit makes of a version, told by files alone.
-/
namespace Go.Proofs.Ytkmcdjbadngfgaa
open Go.RowKit
set_option maxRecDepth 100000
set_option maxHeartbeats 4000000
theorem RowOk.mono {w : World} {B B' : Nat} {a : Option Addr} {c : Nat} {R : List Tf} (h : RowOk w B a c R) (hB : B' ≤ B) : RowOk w B' a c R := by
  rcases h with h | ⟨g, h1, h2, h3⟩
  · exact .inl h
  · exact .inr ⟨g, h1, Nat.le_trans hB h2, h3⟩
theorem RowOk.ne {w : World} {B : Nat} {a : Option Addr} {c : Nat} {R : List Tf} (h : RowOk w B a c R) {p : Nat} {cs : Array Value} {ty : TypeId} {z : Nat × Nat} (hp : w.heap[p]? = some (.cells cs ty z)) (h2 : ty ≠ 29) (g : Nat) (e : a = some ⟨g, 0, none⟩) : ¬ g = p := by
  intro e2
  subst e2
  rcases h with ⟨e3, _⟩ | ⟨g2, e3, _, _, cs2, h4, _⟩
  · rw [e3] at e; cases e
  · rw [e3] at e; cases e; rw [hp] at h4; cases h4; exact h2 rfl
def flL (L : List Lv) : List (List Fl) := L.map fun x => fls x.l
theorem flL_length (L : List Lv) : (flL L).length = L.length := by simp [flL]
def pairsF (LL : List (List Fl)) : List (Nat × Int) := LL.zipIdx.flatMap fun p => p.1.map fun f => (f.no, (p.2 : Int))
theorem pairsL_F (L : List Lv) : pairsL L = pairsF (flL L) := by
  unfold pairsL pairsF flL prs fls
  have : ∀ q, (L.zipIdx q).flatMap (fun p => p.1.l.map fun x => (x.f.no, (p.2 : Int))) = ((L.map fun x => x.l.map Tf.f).zipIdx q).flatMap (fun p => p.1.map fun f => (f.no, (p.2 : Int))) := by
    induction L with
    | nil => intro q; rfl
    | cons x r ih =>
      intro q
      rw [List.zipIdx_cons, List.map_cons, List.zipIdx_cons, List.flatMap_cons, List.flatMap_cons, ih, List.map_map]
      rfl
  exact this 0
def newF (next : Nat) (f : Fl) : Bool := decide (next ≤ f.no)
def wrongLF (next lev : Nat) (l : List Fl) : Bool := l.any wrongF || l.any (newF next) || !ordF lev l
def numsF (LL : List (List Fl)) : List Nat := LL.flatMap fun l => l.map fun f => f.no
def wrongVF (LL : List (List Fl)) (next seq log : Nat) : Bool := headBad next seq log || decide (LL.length ≠ 5) || LL.zipIdx.any (fun p => wrongLF next p.2 p.1) || !decide (numsF LL).Nodup
theorem wrongLv_F (next lev : Nat) (l : List Tf) : wrongLv next lev l = wrongLF next lev (fls l) := by
  unfold wrongLv wrongLF fls
  rw [List.any_map, List.any_map]
  rfl
theorem wrongV_F (L : List Lv) (next seq log : Nat) : wrongV L next seq log = wrongVF (flL L) next seq log := by
  unfold wrongV wrongVF
  have h1 : ∀ q, (L.zipIdx q).any (fun p => wrongLv next p.2 p.1.l) = ((flL L).zipIdx q).any (fun p => wrongLF next p.2 p.1) := by
    unfold flL
    induction L with
    | nil => intro q; rfl
    | cons x r ih =>
      intro q
      rw [List.zipIdx_cons, List.map_cons, List.zipIdx_cons, List.any_cons, List.any_cons, ih, wrongLv_F]
  have h2 : numsL L = numsF (flL L) := by
    unfold numsL numsF flL fls
    rw [List.flatMap_map]
    simp only [List.map_map]
    rfl
  rw [h1 0, h2, flL_length]
theorem len5 {α : Type} {l : List α} (h : l.length = 5) : ∃ a b c d e, l = [a, b, c, d, e] := by
  match l, h with
  | [a, b, c, d, e], _ => exact ⟨a, b, c, d, e, rfl⟩
theorem flL_at {L : List Lv} {k : Nat} {x : Lv} (h : L[k]? = some x) : (flL L)[k]? = some (fls x.l) := by simp [flL, h]
theorem len_of_ok {LL : List (List Fl)} {next seq log : Nat} (h : wrongVF LL next seq log = false) : LL.length = 5 := by
  unfold wrongVF at h
  simp only [Bool.or_eq_false_iff, decide_eq_false_iff_not] at h
  omega
end Go.Proofs.Ytkmcdjbadngfgaa

/-
  filesOf, overlaps, Bytes, Overlap, Deepest.
-/
namespace Go.Proofs.Ytkmcdjbadngfgaa
open Go.RowKit
set_option maxRecDepth 100000
set_option maxHeartbeats 4000000
def filesF (LL : List (List Fl)) (next seq log : Nat) (z : Int) : List Fl := if goodLev z && !wrongVF LL next seq log then LL.getD z.toNat [] else []
theorem filesOf_any (a : Option Addr) (n c next seq log : Nat) (L : List Lv) (z : Int) (w : World) (h : VerIn w a n L next seq log) :
    Calls Try.prog 57 #[verAgg a n c next seq log, .int .i64 z] w fun e w' => ∃ xa xn xc xl, e = .returned (.slice xa xn xc) ∧ xn = List.length xl ∧ Fils w' xa xl ∧ fls xl = filesF (flL L) next seq log z ∧ (∀ y ∈ xl, wrongF y.f = false) ∧ Turns (fun _ => False) w w' := by
  have TA := hide ((Turns.refl (fun _ => False) w).alloc (.cells #[.slice a n c, .int .u64 (next : Nat), .int .u64 (seq : Nat), .int .u64 (log : Nat)] 25))
  have R0 := hide (heap_alloc_new w (.cells #[.slice a n c, .int .u64 (next : Nat), .int .u64 (seq : Nat), .int .u64 (log : Nat)] 25))
  have CK := hide (check_any a n c next seq log L _ (h.quiet TA.out))
  have HCV := hide (show chkV L next seq log = if wrongV L next seq log then 2 else 0 from rfl)
  have HV := hide h
  have CL := hide (isLevel_any z)
  unfold verAgg at *
  clear h
  have HF := hide (show filesF (flL L) next seq log z = if goodLev z && !wrongV L next seq log then (flL L).getD z.toNat [] else [] by unfold filesF; rw [wrongV_F])
  generalize hV : wrongV L next seq log = V at *
  have HWV := hide hV
  clear hV
  generalize chkV L next seq log = C at *
  generalize hg : goodLev z = gl at *
  have HGL := hide hg
  clear hg
  generalize filesF (flL L) next seq log z = FF at *
  have NIL : Fils w none [] := fun k x hx => by simp at hx
  cases gl with
  | false =>
    go_enter Try.func57, Try.ntmps57
    go_wp2_with fail
    refine (CL.out _).mono ?_
    rintro e w1 ⟨rfl, rfl⟩
    go_wp2_with fail
    go_ret
    exact ⟨none, 0, 0, [], rfl, rfl, NIL.quiet TA.out, by rw [HF.out]; simp [fls], fun y hy => by simp at hy, TA.out⟩
  | true =>
    have hz : 0 ≤ z ∧ z < 5 := by simpa [goodLev] using HGL.out
    obtain ⟨k, rfl⟩ : ∃ k : Nat, z = k := ⟨z.toNat, by omega⟩
    have k5 : k < 5 := by omega
    have k5i : (k : Int) < 5 := by omega
    have k0i : (0 : Int) ≤ k := by omega
    clear hz
    cases V with
    | true =>
      have hc : C = 2 := HCV.out
      subst hc
      go_enter Try.func57, Try.ntmps57
      go_wp2_with fail
      refine (CL.out _).mono ?_
      rintro e w1 ⟨rfl, rfl⟩
      go_wp2_with fail
      refine CK.out.mono ?_
      rintro e w2 ⟨rfl, t2⟩
      have T2 := hide (TA.out.trans t2)
      clear t2
      go_wp2_with fail
      go_ret
      exact ⟨none, 0, 0, [], rfl, rfl, NIL.quiet T2.out, by rw [HF.out]; simp [fls], fun y hy => by simp at hy, T2.out⟩
    | false =>
      have hc : C = 0 := HCV.out
      subst hc
      have hn5 : n = 5 := by
        have h1 := HWV.out
        unfold wrongV at h1
        simp only [Bool.or_eq_false_iff, decide_eq_false_iff_not] at h1
        have h2 := HV.out.len
        omega
      subst hn5
      obtain ⟨x, hx⟩ : ∃ x, L[k]? = some x := ⟨_, List.getElem?_eq_getElem (by have := HV.out.len; omega)⟩
      obtain ⟨⟨b, off, rfl, hcl⟩, hfi⟩ := HV.out.levs k x hx
      have HCL := hide hcl
      have HFI := hide hfi
      have HEQ := hide (show fls x.l = FF by rw [HF.out]; have := flL_at hx; simp [List.getD, this])
      have HNW := hide (wrongV_files HWV.out x (List.mem_of_getElem? hx))
      obtain ⟨xa, xc, xl⟩ := x
      simp only at *
      generalize hXL : xl.length = XL at *
      have HXL := hide hXL
      clear hx hXL hcl hfi NIL
      go_enter Try.func57, Try.ntmps57
      go_wp2_with fail
      refine (CL.out _).mono ?_
      rintro e w1 ⟨rfl, rfl⟩
      go_wp2_with fail
      refine CK.out.mono ?_
      rintro e w2 ⟨rfl, t2⟩
      have T2 := hide (TA.out.trans t2)
      have q0 := cell_of_row w2 w.heap.size 0 _ 25 (0, 0) (t2.heap R0.out (fun x => x))
      have q1 := T2.out.cell HCL.out (fun x => x)
      clear t2
      go_wp2_with fail
      go_ret
      exact ⟨xa, XL, xc, xl, rfl, HXL.out.symm, HFI.out.quiet T2.out, HEQ.out, HNW.out, T2.out⟩
def overF (least most : List (BitVec 8)) (f : Fl) : Bool := decide (0 ≤ cmpB f.most least) && (decide (most.length = 0) || decide (cmpB f.least most ≤ 0))
theorem over1_any (x : Tf) (P1 P2 : Nat) (a1 : Option Addr) (n1 c1 : Nat) (a2 : Option Addr) (n2 c2 : Nat) (least most : List (BitVec 8)) (w : World) (h : FB w x) (h1 : w.cell? ⟨P1, 0, none⟩ = some (.slice a1 n1 c1)) (h2 : w.cell? ⟨P2, 0, none⟩ = some (.slice a2 n2 c2)) (b1 : Bytes w (.slice a1 n1 c1) least) (b2 : Bytes w (.slice a2 n2 c2) most) :
    Calls Try.prog 79 #[x.agg, .pointer (some ⟨P1, 0, none⟩), .pointer (some ⟨P2, 0, none⟩)] w fun e w' => e = .returned (.bool (overF least most x.f)) ∧ Turns (fun _ => False) w w' := by
  obtain ⟨la, lc, ma, mc, ⟨no, sz, ls, ms, en, sq⟩⟩ := x
  have TA := hide ((Turns.refl (fun _ => False) w).alloc (.cells #[.int .u64 (no : Nat), .int .i64 sz, .slice la ls.length lc, .slice ma ms.length mc, .int .i64 en, .int .u64 (sq : Nat)] 29))
  have C1 := hide (compareB_any ma a1 ms.length n1 mc c1 ms least _ (h.quiet TA.out).2 (b1.quiet TA.out))
  have C2 := hide (compareB_any la a2 ls.length n2 lc c2 ls most _ (h.quiet TA.out).1 (b2.quiet TA.out))
  have q1 := TA.out.cell h1 (fun x => x)
  have q2 := TA.out.cell h2 (fun x => x)
  have HL2 := hide b2.len
  unfold Tf.agg
  simp only
  clear h h1 h2 b1 b2
  generalize hx1 : cmpB ms least = x1 at *
  generalize hx2 : cmpB ls most = x2 at *
  have HO := hide (show overF least most ⟨no, sz, ls, ms, en, sq⟩ = (decide (0 ≤ x1) && (decide (n2 = 0) || decide (x2 ≤ 0))) by simp only [overF, hx1, hx2, HL2.out])
  clear hx1 hx2
  generalize overF least most ⟨no, sz, ls, ms, en, sq⟩ = O at *
  by_cases i1 : 0 ≤ x1
  · by_cases i2 : n2 = 0
    · subst i2
      go_enter Try.func79, Try.ntmps79
      go_wp2_with fail
      refine C1.out.mono ?_
      rintro e w1 ⟨rfl, rfl⟩
      go_wp2_with fail
      go_ret
      exact ⟨congrArg Ending.returned (congrArg Value.bool (by rw [HO.out]; simp [i1])), TA.out⟩
    · have i3 : ¬ (n2 : Int) = 0 := by omega
      go_enter Try.func79, Try.ntmps79
      go_wp2_with fail
      refine C1.out.mono ?_
      rintro e w1 ⟨rfl, rfl⟩
      go_wp2_with fail
      refine C2.out.mono ?_
      rintro e w1 ⟨rfl, rfl⟩
      go_wp2_with fail
      go_ret
      exact ⟨congrArg Ending.returned (congrArg Value.bool (by rw [HO.out]; simp [i1, i2])), TA.out⟩
  · go_enter Try.func79, Try.ntmps79
    go_wp2_with fail
    refine C1.out.mono ?_
    rintro e w1 ⟨rfl, rfl⟩
    go_wp2_with fail
    go_ret
    exact ⟨congrArg Ending.returned (congrArg Value.bool (by rw [HO.out]; simp; intro h; omega)), TA.out⟩
end Go.Proofs.Ytkmcdjbadngfgaa

/-
  Overlap, Bytes.
-/
namespace Go.Proofs.Ytkmcdjbadngfgaa
open Go.RowKit
set_option maxRecDepth 100000
set_option maxHeartbeats 4000000
theorem overlaps_any (a1 : Option Addr) (n1 c1 : Nat) (a2 : Option Addr) (n2 c2 : Nat) (w : World) : Calls Try.prog 63 #[.slice a1 n1 c1, .slice a2 n2 c2] w fun e w' => e = .returned (.func (.func 79) #[] #[.pointer (some ⟨w.heap.size, 0, none⟩), .pointer (some ⟨w.heap.size + 1, 0, none⟩)]) ∧ w'.cell? ⟨w.heap.size, 0, none⟩ = some (.slice a1 n1 c1) ∧ w'.cell? ⟨w.heap.size + 1, 0, none⟩ = some (.slice a2 n2 c2) ∧ Turns (fun _ => False) w w' := by
  have TA := hide (((Turns.refl (fun _ => False) w).alloc (.cells #[.slice a1 n1 c1] 27)).alloc (.cells #[.slice a2 n2 c2] 27))
  have R0 := hide (((Turns.refl (fun _ => False) (w.alloc (.cells #[.slice a1 n1 c1] 27))).alloc (.cells #[.slice a2 n2 c2] 27)).heap (heap_alloc_new w (.cells #[.slice a1 n1 c1] 27)) (fun x => x))
  have R1 := hide (heap_alloc_new (w.alloc (.cells #[.slice a1 n1 c1] 27)) (.cells #[.slice a2 n2 c2] 27))
  simp only [World.size_alloc] at R1
  go_enter Try.func63, Try.ntmps63
  go_wp2_with fail
  go_ret
  exact ⟨rfl, cell_of_row _ w.heap.size 0 _ 27 (0, 0) R0.out, cell_of_row _ (w.heap.size + 1) 0 _ 27 (0, 0) R1.out, TA.out⟩
def sizesF (l : List Fl) : Int := (l.map fun f => f.size).sum
theorem vbytes_any (a : Option Addr) (n c next seq log : Nat) (L : List Lv) (z : Int) (w : World) (h : VerIn w a n L next seq log) :
    Calls Try.prog 43 #[verAgg a n c next seq log, .int .i64 z] w fun e w' => e = .returned (.int .i64 (sizesF (filesF (flL L) next seq log z))) ∧ Turns (fun _ => False) w w' := by
  have TA := hide ((Turns.refl (fun _ => False) w).alloc (.cells #[.slice a n c, .int .u64 (next : Nat), .int .u64 (seq : Nat), .int .u64 (log : Nat)] 25))
  have CF := hide (filesOf_any a n c next seq log L z _ (h.quiet TA.out))
  have HLN := hide (show (filesF (flL L) next seq log z).length ≤ 5000 from by
    unfold filesF
    split
    · next hh =>
      cases hk : (flL L)[z.toNat]? with
      | none => simp [List.getD, hk]
      | some l =>
        simp only [List.getD, hk, Option.getD_some]
        simp only [flL, List.getElem?_map, Option.map_eq_some_iff] at hk
        obtain ⟨x, hx, rfl⟩ := hk
        have := cnt_take hx; have := cnt_take_le L (z.toNat + 1); have := h.cnt
        simp only [fls, List.length_map]
        omega
    · simp)
  unfold verAgg at *
  clear h
  generalize filesF (flL L) next seq log z = FF at *
  go_enter Try.func43, Try.ntmps43
  go_wp2_with fail
  refine CF.out.mono ?_
  rintro e w1 ⟨xa, xn, xc, xl, rfl, hxn, hfi, hfl, hnw, t1⟩
  have HXN := hide hxn
  have HFI := hide hfi
  have HFL := hide hfl
  have HNW := hide hnw
  have T1 := hide (TA.out.trans t1)
  have HXB := hide (show xn ≤ 5000 by have h1 := HLN.out; rw [← hfl] at h1; simp only [fls, List.length_map] at h1; omega)
  have hxi : (xn : Int) ≤ 5000 := by have := HXB.out; omega
  clear hxn hfi hfl hnw t1 CF
  go_wp2_with fail
  go_loopw [5, 12] (fun s i wr => ∃ (k : Nat) (t : Int), i = .int .i64 (k : Nat) ∧ s = .int .i64 t ∧ k ≤ xn ∧ t = ((xl.take k).map fun y => y.f.size).sum ∧ 0 ≤ t ∧ t ≤ k * 16777216 ∧ Turns (fun _ => False) w1 wr) (fun _ i _ => xn - (intOf i).toNat)
  case atStart => exact ⟨0, 0, rfl, rfl, Nat.zero_le _, by simp, by omega, by simp, Turns.refl _ _⟩
  case round =>
    obtain ⟨k, t, rfl, rfl, hk, ht, h0, h1, hb⟩ := hrel
    have HB := hide hb
    have HTT := hide ht
    clear hb ht
    by_cases hkn : k < xn
    · obtain ⟨y, hy⟩ : ∃ y, xl[k]? = some y := ⟨_, List.getElem?_eq_getElem (by have := HXN.out; omega)⟩
      obtain ⟨b, off, rfl, h6, hfb⟩ := fc_of (HFI.out.quiet HB.out) hy
      have i1 : (k : Int) < xn := by omega
      have i0 : (0 : Int) ≤ k := by omega
      obtain ⟨v1, v2, v3, v4, _⟩ := wrongF_false (HNW.out y (List.mem_of_getElem? hy))
      have HNX := hide (show ((xl.take (k + 1)).map fun y => y.f.size).sum = t + y.f.size by rw [List.take_add_one, hy, HTT.out]; simp [List.sum_append])
      obtain ⟨la, lc, ma, mc, ⟨no, sz, ls, ms, en, sq⟩⟩ := y
      obtain ⟨y0, y1, y2, y3, y4, y5⟩ := h6
      simp only at *
      have TF := hide ((Turns.refl (fun _ => False) wr).alloc (.cells #[.int .u64 (no : Nat), .int .i64 sz, .slice la ls.length lc, .slice ma ms.length mc, .int .i64 en, .int .u64 (sq : Nat)] 29))
      have hb1 : t + sz ≤ 9223372036854775807 := by omega
      have hk2 : t + sz ≤ ((k + 1 : Nat) : Int) * 16777216 := by omega
      have HK2 := hide hk2
      clear hfb hy v1 v2 hk2
      go_wp2_with fail
      go_roundw
      case rel => exact ⟨k + 1, t + sz, by go_num, by go_num, by omega, HNX.out.symm, by omega, HK2.out, HB.out.trans TF.out⟩
      case measure => simp [intOf]; omega
    · obtain rfl : k = xn := by omega
      have htk : xl.take k = xl := List.take_of_length_le (by have := HXN.out; omega)
      rw [htk] at HTT
      clear htk
      go_wp2_with fail
      go_ret
      exact ⟨congrArg Ending.returned (congrArg (Value.int .i64) (by rw [HTT.out, ← HFL.out]; unfold sizesF fls; rw [List.map_map]; rfl)), T1.out.trans HB.out⟩
end Go.Proofs.Ytkmcdjbadngfgaa

/-
  Overlap.
-/
namespace Go.Proofs.Ytkmcdjbadngfgaa
open Go.RowKit
set_option maxRecDepth 100000
set_option maxHeartbeats 4000000
theorem filesF_len (L : List Lv) (next seq log : Nat) (z : Int) (h : cnt L ≤ 5000) : (filesF (flL L) next seq log z).length ≤ 5000 := by
  unfold filesF
  split
  · next hh =>
    cases hk : (flL L)[z.toNat]? with
    | none => simp [List.getD, hk]
    | some l =>
      simp only [List.getD, hk, Option.getD_some]
      simp only [flL, List.getElem?_map, Option.map_eq_some_iff] at hk
      obtain ⟨x, hx, rfl⟩ := hk
      have := cnt_take hx; have := cnt_take_le L (z.toNat + 1)
      simp only [fls, List.length_map]
      omega
  · simp
theorem overlap_any (a : Option Addr) (n c next seq log : Nat) (L : List Lv) (z : Int) (a1 : Option Addr) (n1 c1 : Nat) (a2 : Option Addr) (n2 c2 : Nat) (least most : List (BitVec 8)) (w : World) (h : VerIn w a n L next seq log) (b1 : Bytes w (.slice a1 n1 c1) least) (b2 : Bytes w (.slice a2 n2 c2) most) :
    Calls Try.prog 46 #[verAgg a n c next seq log, .int .i64 z, .slice a1 n1 c1, .slice a2 n2 c2] w fun e w' => ∃ xa xc R, e = .returned (.slice xa (List.length R) xc) ∧ RowOk w' w.heap.size xa xc R ∧ fls R = (filesF (flL L) next seq log z).filter (overF least most) ∧ (∀ y ∈ R, FT w' w.heap.size y) ∧ Turns (fun _ => False) w w' := by
  have TA := hide ((Turns.refl (fun _ => False) w).alloc (.cells #[.slice a n c, .int .u64 (next : Nat), .int .u64 (seq : Nat), .int .u64 (log : Nat)] 25))
  have R0 := hide (heap_alloc_new w (.cells #[.slice a n c, .int .u64 (next : Nat), .int .u64 (seq : Nat), .int .u64 (log : Nat)] 25))
  have CF := hide (fun (u : World) (t : Turns (fun _ => False) w u) => filesOf_any a n c next seq log L z u (h.quiet t))
  have HLN := hide (filesF_len L next seq log z h.cnt)
  have HB1 := hide b1
  have HB2 := hide b2
  unfold verAgg at *
  clear h b1 b2
  generalize filesF (flL L) next seq log z = FF at *
  go_enter Try.func46, Try.ntmps46
  go_wp2_with fail
  refine (overlaps_any a1 n1 c1 a2 n2 c2 _).mono ?_
  rintro e w1 ⟨rfl, h1, h2, t1⟩
  have H1 := hide h1
  have H2 := hide h2
  have T1 := hide (TA.out.trans t1)
  have r1 := t1.heap R0.out (fun x => x)
  have q0 := cell_of_row w1 w.heap.size 0 _ 25 (0, 0) r1
  have q1 := cell_of_row w1 w.heap.size 1 _ 25 (0, 0) r1
  have q2 := cell_of_row w1 w.heap.size 2 _ 25 (0, 0) r1
  have q3 := cell_of_row w1 w.heap.size 3 _ 25 (0, 0) r1
  clear h1 h2 t1 r1
  generalize hP : (w.alloc (.cells #[.slice a n c, .int .u64 (next : Nat), .int .u64 (seq : Nat), .int .u64 (log : Nat)] 25)).heap.size = P at *
  clear hP
  go_wp2_with fail
  refine (CF.out _ T1.out).mono ?_
  rintro e w2 ⟨xa, xn, xc, xl, rfl, hxn, hfi, hfl, hnw, t2⟩
  have HXN := hide hxn
  have HFI := hide hfi
  have HFL := hide hfl
  have HNW := hide hnw
  have T2 := hide (T1.out.trans t2)
  have G1 := hide (t2.cell H1.out (fun x => x))
  have G2 := hide (t2.cell H2.out (fun x => x))
  have HXB := hide (show xn ≤ 5000 by have h1 := HLN.out; rw [← hfl] at h1; simp only [fls, List.length_map] at h1; omega)
  have hxi : (xn : Int) ≤ 5000 := by have := HXB.out; omega
  clear hxn hfi hfl hnw t2 q0 q1 q2 q3
  go_wp2_with fail
  go_loopw [9, 20] (fun v9 i wr => ∃ (k : Nat) (R : List Tf) (ra : Option Addr) (rn rc : Nat), i = .int .i64 (k : Nat) ∧ v9 = .slice ra rn rc ∧ rn = R.length ∧ k ≤ xn ∧ rn ≤ k ∧ RowOk wr w2.heap.size ra rc R ∧ fls R = (fls (xl.take k)).filter (overF least most) ∧ (∀ y ∈ R, FT wr w2.heap.size y) ∧ Turns (fun j => w2.heap.size ≤ j) w2 wr) (fun _ i _ => xn - (intOf i).toNat)
  case atStart => exact ⟨0, [], none, 0, 0, rfl, rfl, rfl, Nat.zero_le _, Nat.le_refl _, .inl ⟨rfl, rfl, rfl⟩, by simp [fls], fun y hy => (by cases hy), Turns.refl _ _⟩
  case round =>
    obtain ⟨k, R, ra, rn, rc, rfl, rfl, hrn, hk, hrk, hro, hfr, hft, htn⟩ := hrel
    have HRN := hide hrn
    have HRK := hide hrk
    have HRO := hide hro
    have HFR := hide hfr
    have HFT := hide hft
    have HTN := hide htn
    have HTQ := hide (show Turns (fun _ => False) w2 wr from htn.mono fun j hj e => by omega)
    clear hrn hro hfr hft htn
    by_cases hkn : k < xn
    · obtain ⟨y, hy⟩ : ∃ y, xl[k]? = some y := ⟨_, List.getElem?_eq_getElem (by have := HXN.out; omega)⟩
      obtain ⟨b, off, rfl, h6, hfb⟩ := fc_of (HFI.out.quiet HTQ.out) hy
      have i1 : (k : Int) < xn := by omega
      have i0 : (0 : Int) ≤ k := by omega
      obtain ⟨_, _, _, _, _, _, _, v8, _, v10, _⟩ := wrongF_false (HNW.out y (List.mem_of_getElem? hy))
      have HNX := hide (show (fls (xl.take (k + 1))).filter (overF least most) = fls R ++ if overF least most y.f then [y.f] else [] by
        rw [HFR.out, List.take_add_one, hy]
        simp only [fls, List.map_append, Option.toList_some, List.map_cons, List.map_nil, List.filter_append]
        congr 1
        cases h : overF least most y.f <;> simp [h])
      have CO := hide (fun (u : World) (t : Turns (fun _ => False) wr u) => over1_any y P (P + 1) a1 n1 c1 a2 n2 c2 least most u (hfb.quiet t) (t.cell (HTQ.out.cell G1.out (fun x => x)) (fun x => x)) (t.cell (HTQ.out.cell G2.out (fun x => x)) (fun x => x)) (HB1.out.quiet (T2.out.trans (HTQ.out.trans t))) (HB2.out.quiet (T2.out.trans (HTQ.out.trans t))))
      have CC := hide (fun (u : World) (t : Turns (fun _ => False) wr u) => cloneF_any y u (hfb.quiet t) (by omega) (by omega))
      obtain ⟨la, lc, ma, mc, ⟨no, sz, ls, ms, en, sq⟩⟩ := y
      obtain ⟨y0, y1, y2, y3, y4, y5⟩ := h6
      unfold Tf.agg at CO CC
      simp only at *
      generalize ls.length = L1 at *
      generalize ms.length = L2 at *
      have TF := hide ((Turns.refl (fun _ => False) wr).alloc (.cells #[.int .u64 (no : Nat), .int .i64 sz, .slice la L1 lc, .slice ma L2 mc, .int .i64 en, .int .u64 (sq : Nat)] 29))
      have RF := hide (heap_alloc_new wr (.cells #[.int .u64 (no : Nat), .int .i64 sz, .slice la L1 lc, .slice ma L2 mc, .int .i64 en, .int .u64 (sq : Nat)] 29))
      clear hfb hy v8 v10
      go_wp2_with fail
      refine (CO.out _ TF.out).mono ?_
      rintro e w3 ⟨rfl, t3⟩
      have T3 := hide (TF.out.trans t3)
      have R3 := hide (t3.heap RF.out (fun x => x))
      clear t3 CO
      generalize hov : overF least most ⟨no, sz, ls, ms, en, sq⟩ = ov at *
      clear hov y0 y1 y2 y3 y4 y5
      cases ov with
      | false =>
        go_wp2_with fail
        go_roundw
        case rel => exact ⟨k + 1, R, ra, rn, rc, by go_num, rfl, HRN.out, by omega, by omega, HRO.out.keep T3.out fun _ _ x => x, by rw [HNX.out]; simp, fun y hy => (HFT.out y hy).quiet T3.out, HTN.out.trans (T3.out.mono fun _ _ x => x.elim)⟩
        case measure => simp [intOf]; omega
      | true =>
        have c0 := cell_of_row w3 wr.heap.size 0 _ 29 (0, 0) R3.out
        have c1' := cell_of_row w3 wr.heap.size 1 _ 29 (0, 0) R3.out
        have c2' := cell_of_row w3 wr.heap.size 2 _ 29 (0, 0) R3.out
        have c3 := cell_of_row w3 wr.heap.size 3 _ 29 (0, 0) R3.out
        have c4 := cell_of_row w3 wr.heap.size 4 _ 29 (0, 0) R3.out
        have c5 := cell_of_row w3 wr.heap.size 5 _ 29 (0, 0) R3.out
        go_wp2_with fail
        refine (CC.out _ T3.out).mono ?_
        rintro e w4 ⟨y2, rfl, hyf, hft2, t4⟩
        obtain ⟨y2la, y2lc, y2ma, y2mc, ⟨no2, sz2, ls2, ms2, en2, sq2⟩⟩ := y2
        have T4 := hide (T3.out.trans t4)
        have TB := hide ((Turns.refl (fun _ => False) w4).alloc (.cells #[.int .u64 (no2 : Nat), .int .i64 sz2, .slice y2la ls2.length y2lc, .slice y2ma ms2.length y2mc, .int .i64 en2, .int .u64 (sq2 : Nat)] 29))
        have hnw := heap_alloc_new w4 (.cells #[.int .u64 (no2 : Nat), .int .i64 sz2, .slice y2la ls2.length y2lc, .slice y2ma ms2.length y2mc, .int .i64 en2, .int .u64 (sq2 : Nat)] 29)
        have hszs := HTN.out.size
        have hsz4 := T4.out.size
        have hszB := TB.out.size
        obtain ⟨a5, n5, c5', w5, hr5, hn5, hro5, ht5, hq5⟩ := append_fl _ w2.heap.size ra rc R (HRO.out.keep (T4.out.trans TB.out) fun _ _ x => x) (by omega) (by have := HRN.out; have := HXB.out; omega) ⟨y2la, y2lc, y2ma, y2mc, ⟨no2, sz2, ls2, ms2, en2, sq2⟩⟩ w4.heap.size 1 hnw
        rw [← HRN.out] at hr5
        have HR5 := hide hr5
        have REL := hide (show n5 = (R ++ [(⟨y2la, y2lc, y2ma, y2mc, ⟨no2, sz2, ls2, ms2, en2, sq2⟩⟩ : Tf)]).length ∧ n5 ≤ k + 1 ∧ RowOk w5 w2.heap.size a5 c5' (R ++ [(⟨y2la, y2lc, y2ma, y2mc, ⟨no2, sz2, ls2, ms2, en2, sq2⟩⟩ : Tf)]) ∧ fls (R ++ [(⟨y2la, y2lc, y2ma, y2mc, ⟨no2, sz2, ls2, ms2, en2, sq2⟩⟩ : Tf)]) = (fls (xl.take (k + 1))).filter (overF least most) ∧ (∀ y ∈ R ++ [(⟨y2la, y2lc, y2ma, y2mc, ⟨no2, sz2, ls2, ms2, en2, sq2⟩⟩ : Tf)], FT w5 w2.heap.size y) ∧ Turns (fun j => w2.heap.size ≤ j) w2 w5 from by
          have hyf' : (⟨no2, sz2, ls2, ms2, en2, sq2⟩ : Fl) = ⟨no, sz, ls, ms, en, sq⟩ := hyf
          have hne : ∀ j, ra = some ⟨j, 0, none⟩ → w2.heap.size ≤ j := fun j e => by
            rcases HRO.out with ⟨e3, _⟩ | ⟨g2, e3, h5, _⟩
            · rw [e3] at e; cases e
            · rw [e3] at e; cases e; exact h5
          refine ⟨hn5, by rw [hn5, List.length_append, ← HRN.out]; simp; omega, hro5, ?_, fun y hy => ?_, (HTN.out.trans ((T4.out.trans TB.out).mono fun _ _ x => x.elim)).trans (ht5.mono fun j _ e => hne j e)⟩
          · rw [HNX.out]
            simp [fls, hyf']
          · have hkeep : ∀ {B : Nat} {y : Tf}, FT (w4.alloc (.cells #[.int .u64 (no2 : Nat), .int .i64 sz2, .slice y2la ls2.length y2lc, .slice y2ma ms2.length y2mc, .int .i64 en2, .int .u64 (sq2 : Nat)] 29)) B y → FT w5 B y := fun hy => hy.keep ht5 fun j e _ cs' z' e2 => ((HRO.out.keep (T4.out.trans TB.out) fun _ _ x => x).ne e2 (by decide) j e rfl)
            rcases List.mem_append.1 hy with hy | hy
            · exact hkeep ((HFT.out y hy).quiet (T4.out.trans TB.out))
            · obtain rfl := List.mem_singleton.1 hy
              have hs3 := T3.out.size
              exact (hkeep (hft2.quiet TB.out)).mono (by omega))
        clear hr5 hn5 hro5 ht5 hq5 hnw t4 hyf hft2 c0 c1' c2' c3 c4 c5 hszs hsz4 hszB
        go_wp2_with (at_builtin; refine wpList_append_run rfl _ _ 31 rfl (.slice ra rn rc) (.slice (some ⟨w4.heap.size, 0, none⟩) 1 1) rfl rfl _ _ (HR5.out _) ?_)
        obtain ⟨r1, r2, r3, r4, r5, r6⟩ := REL.out
        go_roundw
        case rel => exact ⟨k + 1, _, a5, n5, c5', by go_num, rfl, r1, by omega, r2, r3, r4, r5, r6⟩
        case measure => simp [intOf]; omega
    · obtain rfl : k = xn := by omega
      have htk : xl.take k = xl := List.take_of_length_le (by have := HXN.out; omega)
      rw [htk, HFL.out] at HFR
      clear htk
      have hT2 := T2.out.size
      go_wp2_with fail
      go_ret
      exact ⟨ra, rc, R, by rw [HRN.out]; rfl, HRO.out.mono hT2, HFR.out, fun y hy => (HFT.out y hy).mono hT2, T2.out.trans HTQ.out⟩
end Go.Proofs.Ytkmcdjbadngfgaa

/-
  Deepest.
-/
namespace Go.Proofs.Ytkmcdjbadngfgaa
open Go.RowKit
set_option maxRecDepth 100000
set_option maxHeartbeats 4000000
def overT (least most : List (BitVec 8)) (x : Tf) : Bool := overF least most x.f
theorem index_over (a : Option Addr) (n c : Nat) (l : List Tf) (P1 P2 : Nat) (a1 : Option Addr) (n1 c1 : Nat) (a2 : Option Addr) (n2 c2 : Nat) (least most : List (BitVec 8)) (w : World) (h : Fils w a l) (hn : n = l.length) (hmx : n ≤ 1000000) (h1 : w.cell? ⟨P1, 0, none⟩ = some (.slice a1 n1 c1)) (h2 : w.cell? ⟨P2, 0, none⟩ = some (.slice a2 n2 c2)) (b1 : Bytes w (.slice a1 n1 c1) least) (b2 : Bytes w (.slice a2 n2 c2) most) :
    Calls Try.prog 81 #[.slice a n c, .func (.func 79) #[] #[.pointer (some ⟨P1, 0, none⟩), .pointer (some ⟨P2, 0, none⟩)]] w fun e w' => ∃ z : Int, e = .returned (.int .i64 z) ∧ (0 ≤ z ↔ l.any (overT least most) = true) ∧ Turns (fun _ => False) w w' := by
  have H := hide h
  have HL := hide hn
  have hni : (n : Int) ≤ 1000000 := by omega
  have CV := hide (fun (u : World) (t : Turns (fun _ => False) w u) (x : Tf) (hfb : FB u x) => over1_any x P1 P2 a1 n1 c1 a2 n2 c2 least most u hfb (t.cell h1 (fun x => x)) (t.cell h2 (fun x => x)) (b1.quiet t) (b2.quiet t))
  clear h hn h1 h2 b1 b2
  go_enter Try.func81, Try.ntmps81
  go_wp2_with fail
  go_loopw [8] (fun i wr => ∃ k : Nat, i = .int .i64 (k : Nat) ∧ k ≤ n ∧ (l.take k).any (overT least most) = false ∧ Turns (fun _ => False) w wr) (fun i _ => n - (intOf i).toNat)
  case atStart => exact ⟨0, rfl, Nat.zero_le _, rfl, Turns.refl _ _⟩
  case round =>
    obtain ⟨k, rfl, hk, hno, hb⟩ := hrel
    have HNO := hide hno
    have HB := hide hb
    clear hno hb
    by_cases hkn : k < n
    · obtain ⟨x, hx⟩ : ∃ x, l[k]? = some x := ⟨_, List.getElem?_eq_getElem (by have := HL.out; omega)⟩
      obtain ⟨b, off, rfl, h6, hfb⟩ := fc_of (H.out.quiet HB.out) hx
      have i1 : (k : Int) < (n : Int) := by omega
      have i0 : (0 : Int) ≤ (k : Int) := by omega
      have HTK := hide (show (l.take (k + 1)).any (overT least most) = (overT least most) x by rw [List.take_add_one, hx, List.any_append, HNO.out]; simp)
      have HANY := hide (show (overT least most) x = true → l.any (overT least most) = true from fun e => List.any_eq_true.2 ⟨x, List.mem_of_getElem? hx, e⟩)
      have CC := hide (show Calls Try.prog 79 #[x.agg, .pointer (some ⟨P1, 0, none⟩), .pointer (some ⟨P2, 0, none⟩)] wr fun e w' => e = .returned (.bool (overT least most x)) ∧ Turns (fun _ => False) wr w' from CV.out wr HB.out x hfb)
      obtain ⟨y0, y1, y2, y3, y4, y5⟩ := h6
      unfold Tf.agg at CC
      clear hfb hx
      go_wp2_with fail
      refine CC.out.mono ?_
      rintro e w1 ⟨rfl, t1⟩
      have B1 := hide (HB.out.trans t1)
      clear t1 CC y0 y1 y2 y3 y4 y5
      generalize hq : (overT least most) x = q at *
      have HQ := hide hq
      clear hq
      cases q
      · go_wp2_with fail
        go_roundw
        case rel => exact ⟨k + 1, by go_num, by omega, HTK.out, B1.out⟩
        case measure => simp [intOf]; omega
      · go_wp2_with fail
        go_ret
        exact ⟨_, rfl, ⟨fun _ => HANY.out trivial, fun _ => by omega⟩, B1.out⟩
    · obtain rfl : k = n := by omega
      have ht : l.take k = l := List.take_of_length_le (by have := HL.out; omega)
      have HT := hide ht
      clear ht
      go_wp2_with fail
      go_ret
      refine ⟨_, rfl, ⟨fun h => by omega, fun h => ?_⟩, HB.out⟩
      have := HNO.out
      rw [HT.out, h] at this
      cases this
theorem contains_over (a : Option Addr) (n c : Nat) (l : List Tf) (P1 P2 : Nat) (a1 : Option Addr) (n1 c1 : Nat) (a2 : Option Addr) (n2 c2 : Nat) (least most : List (BitVec 8)) (w : World) (h : Fils w a l) (hn : n = l.length) (hmx : n ≤ 1000000) (h1 : w.cell? ⟨P1, 0, none⟩ = some (.slice a1 n1 c1)) (h2 : w.cell? ⟨P2, 0, none⟩ = some (.slice a2 n2 c2)) (b1 : Bytes w (.slice a1 n1 c1) least) (b2 : Bytes w (.slice a2 n2 c2) most) :
    Calls Try.prog 66 #[.slice a n c, .func (.func 79) #[] #[.pointer (some ⟨P1, 0, none⟩), .pointer (some ⟨P2, 0, none⟩)]] w fun e w' => e = .returned (.bool (l.any (overT least most))) ∧ Turns (fun _ => False) w w' := by
  have IX := hide (index_over a n c l P1 P2 a1 n1 c1 a2 n2 c2 least most w h hn hmx h1 h2 b1 b2)
  clear h hn h1 h2 b1 b2
  go_enter Try.func66, Try.ntmps66
  go_wp2_with fail
  refine IX.out.mono ?_
  rintro e w1 ⟨z, rfl, hz, t1⟩
  have HZ := hide hz
  have B1 := hide t1
  clear hz t1 IX
  go_wp2_with fail
  go_ret
  refine ⟨congrArg Ending.returned (congrArg Value.bool (Bool.eq_iff_iff.2 ?_)), B1.out⟩
  rw [← HZ.out]
  simp
theorem len_of5 {LL : List (List Fl)} {next seq log : Nat} (h : wrongVF LL next seq log = false) : LL.length = 5 := by
  unfold wrongVF at h
  simp only [Bool.or_eq_false_iff, decide_eq_false_iff_not] at h
  omega
def deepF (LL : List (List Fl)) (next seq log : Nat) (z : Int) (least most : List (BitVec 8)) : Bool := decide (z < 0) || wrongVF LL next seq log || !(LL.zipIdx.any fun p => decide (z < (p.2 : Int)) && p.1.any (overF least most))
theorem deep_take {L : List Lv} {k : Nat} {x : Lv} (z : Int) (least most : List (BitVec 8)) (h : L[k]? = some x) : ((flL (L.take (k + 1))).zipIdx.any fun p => decide (z < (p.2 : Int)) && p.1.any (overF least most)) = (((flL (L.take k)).zipIdx.any fun p => decide (z < (p.2 : Int)) && p.1.any (overF least most)) || (decide (z < (k : Int)) && x.l.any (overT least most))) := by
  have hi := (List.getElem?_eq_some_iff.1 h).1
  have e : L.take (k + 1) = L.take k ++ [x] := by rw [List.take_add_one, h]; rfl
  have hl : (flL (L.take k)).length = k := by rw [flL_length, List.length_take]; omega
  rw [e, show flL (L.take k ++ [x]) = flL (L.take k) ++ [fls x.l] by simp [flL], List.zipIdx_append, List.any_append, hl, Nat.zero_add]
  congr 1
  simp only [List.zipIdx_singleton, List.any_cons, List.any_nil, Bool.or_false, fls, List.any_map]
  rfl
theorem deepest_any (a : Option Addr) (n c next seq log : Nat) (L : List Lv) (z : Int) (a1 : Option Addr) (n1 c1 : Nat) (a2 : Option Addr) (n2 c2 : Nat) (least most : List (BitVec 8)) (w : World) (h : VerIn w a n L next seq log) (b1 : Bytes w (.slice a1 n1 c1) least) (b2 : Bytes w (.slice a2 n2 c2) most) :
    Calls Try.prog 49 #[verAgg a n c next seq log, .int .i64 z, .slice a1 n1 c1, .slice a2 n2 c2] w fun e w' => e = .returned (.bool (deepF (flL L) next seq log z least most)) ∧ Turns (fun _ => False) w w' := by
  have TA := hide ((Turns.refl (fun _ => False) w).alloc (.cells #[.slice a n c, .int .u64 (next : Nat), .int .u64 (seq : Nat), .int .u64 (log : Nat)] 25))
  have R0 := hide (heap_alloc_new w (.cells #[.slice a n c, .int .u64 (next : Nat), .int .u64 (seq : Nat), .int .u64 (log : Nat)] 25))
  have CK := hide (check_any a n c next seq log L _ (h.quiet TA.out))
  have HCV := hide (show chkV L next seq log = if wrongV L next seq log then 2 else 0 from rfl)
  have HV := hide h
  have HB1 := hide b1
  have HB2 := hide b2
  unfold verAgg at *
  clear h b1 b2
  by_cases hz : z < 0
  · have HD := hide (show deepF (flL L) next seq log z least most = true by simp [deepF, hz])
    generalize deepF (flL L) next seq log z least most = DD at *
    go_enter Try.func49, Try.ntmps49
    go_wp2_with fail
    go_ret
    exact ⟨congrArg Ending.returned (congrArg Value.bool HD.out.symm), TA.out⟩
  generalize hV : wrongV L next seq log = V at *
  have HWV := hide (show wrongVF (flL L) next seq log = V by rw [← wrongV_F]; exact hV)
  clear hV
  generalize chkV L next seq log = C at *
  cases V with
  | true =>
    have hc : C = 2 := HCV.out
    subst hc
    have HD := hide (show deepF (flL L) next seq log z least most = true by simp [deepF, HWV.out])
    generalize deepF (flL L) next seq log z least most = DD at *
    go_enter Try.func49, Try.ntmps49
    go_wp2_with fail
    refine CK.out.mono ?_
    rintro e w1 ⟨rfl, t1⟩
    have T1 := hide (TA.out.trans t1)
    clear t1
    go_wp2_with fail
    go_ret
    exact ⟨congrArg Ending.returned (congrArg Value.bool HD.out.symm), T1.out⟩
  | false =>
    have hc : C = 0 := HCV.out
    subst hc
    have HD := hide (show deepF (flL L) next seq log z least most = !((flL L).zipIdx.any fun p => decide (z < (p.2 : Int)) && p.1.any (overF least most)) by simp [deepF, HWV.out, hz])
    generalize deepF (flL L) next seq log z least most = DD at *
    obtain rfl : n = 5 := by have h1 := len_of5 HWV.out; rw [flL_length] at h1; have := HV.out.len; omega
    go_enter Try.func49, Try.ntmps49
    go_wp2_with fail
    refine CK.out.mono ?_
    rintro e w1 ⟨rfl, t1⟩
    have T1 := hide (TA.out.trans t1)
    have R1 := hide (t1.heap R0.out (fun x => x))
    clear t1 CK
    go_wp2_with fail
    refine (overlaps_any a1 n1 c1 a2 n2 c2 w1).mono ?_
    rintro e w2 ⟨rfl, q1, q2, t2⟩
    have T2 := hide (T1.out.trans t2)
    have Q1 := hide q1
    have Q2 := hide q2
    have p0 := cell_of_row w2 w.heap.size 0 _ 25 (0, 0) (t2.heap R1.out (fun x => x))
    clear q1 q2 t2
    generalize w1.heap.size = P1 at *
    go_wp2_with fail
    clear p0
    go_loopw [25] (fun i wr => ∃ k : Nat, i = .int .i64 (k : Nat) ∧ k ≤ 5 ∧ ((flL (L.take k)).zipIdx.any fun p => decide (z < (p.2 : Int)) && p.1.any (overF least most)) = false ∧ Turns (fun _ => False) w2 wr) (fun i _ => 5 - (intOf i).toNat)
    case atStart => exact ⟨0, rfl, Nat.zero_le _, by simp [flL], Turns.refl _ _⟩
    case round =>
      obtain ⟨k, rfl, hk, hno, hb⟩ := hrel
      have HNO := hide hno
      have HB := hide hb
      clear hno hb
      by_cases hkn : k < 5
      · obtain ⟨x, hx⟩ : ∃ x, L[k]? = some x := ⟨_, List.getElem?_eq_getElem (by have := HV.out.len; omega)⟩
        obtain ⟨⟨b, off, rfl, hcl⟩, hfi⟩ := (HV.out.levs.quiet (T2.out.trans HB.out)) k x hx
        have i1 : (k : Int) < 5 := by omega
        have i0 : (0 : Int) ≤ (k : Int) := by omega
        have HTK := hide (deep_take z least most hx)
        have hxl : x.l.length ≤ 1000000 := by have := cnt_take hx; have := cnt_take_le L (k + 1); have := HV.out.cnt; omega
        have CC := hide (contains_over x.a x.l.length x.c x.l P1 (P1 + 1) a1 n1 c1 a2 n2 c2 least most wr hfi rfl hxl (HB.out.cell Q1.out (fun x => x)) (HB.out.cell Q2.out (fun x => x)) (HB1.out.quiet (T2.out.trans HB.out)) (HB2.out.quiet (T2.out.trans HB.out)))
        have HTRUE := hide (show z < (k : Int) → x.l.any (overT least most) = true → ((flL L).zipIdx.any fun p => decide (z < (p.2 : Int)) && p.1.any (overF least most)) = true from fun e1 e2 => List.any_eq_true.2 ⟨(fls x.l, k), List.mem_zipIdx_iff_getElem?.2 (flL_at hx), by simp only [fls, List.any_map, e1, decide_true, Bool.true_and]; exact e2⟩)
        obtain ⟨xa, xc, xl⟩ := x
        simp only at *
        generalize xl.length = XL at *
        generalize xl.any (overT least most) = OV at *
        clear hx hfi hxl
        by_cases hzk : z < (k : Int)
        · go_wp2_with fail
          refine CC.out.mono ?_
          rintro e w3 ⟨rfl, t3⟩
          have T3 := hide (HB.out.trans t3)
          clear t3 CC
          cases OV with
          | false =>
            go_wp2_with fail
            go_roundw
            case rel => exact ⟨k + 1, by go_num, by omega, by rw [HTK.out, HNO.out]; simp, T3.out⟩
            case measure => simp [intOf]; omega
          | true =>
            go_wp2_with fail
            go_ret
            exact ⟨congrArg Ending.returned (congrArg Value.bool (by rw [HD.out, HTRUE.out hzk trivial]; rfl)), T2.out.trans T3.out⟩
        · go_wp2_with fail
          go_roundw
          case rel => exact ⟨k + 1, by go_num, by omega, by rw [HTK.out, HNO.out]; simp; omega, HB.out⟩
          case measure => simp [intOf]; omega
      · obtain rfl : k = 5 := by omega
        have ht : L.take 5 = L := List.take_of_length_le (by have := HV.out.len; omega)
        rw [ht] at HNO
        clear ht
        go_wp2_with fail
        go_ret
        exact ⟨congrArg Ending.returned (congrArg Value.bool (by rw [HD.out, HNO.out]; rfl)), T2.out.trans HB.out⟩
end Go.Proofs.Ytkmcdjbadngfgaa

/-
  The kit's comparisons, of what is the same.
-/
namespace Go.Proofs.Ytkmcdjbadngfgaa
open Go.RowKit
set_option maxRecDepth 100000
set_option maxHeartbeats 4000000
theorem kfile_same (x y : Tf) (w : World) (h : FB w x) (h' : FB w y) (e : x.f = y.f) (l1 : x.f.least.length ≤ 1000000000) (l2 : x.f.most.length ≤ 1000000000) : Calls Try.prog 52 #[x.agg, y.agg] w fun e w' => e = .returned (.bool true) ∧ Turns (fun _ => False) w w' := by
  obtain ⟨la, lc, ma, mc, ⟨no, sz, ls, ms, en, sq⟩⟩ := x
  obtain ⟨la', lc', ma', mc', f'⟩ := y
  simp only at e
  subst e
  have TA := hide (((Turns.refl (fun _ => False) w).alloc (.cells #[.int .u64 (no : Nat), .int .i64 sz, .slice la ls.length lc, .slice ma ms.length mc, .int .i64 en, .int .u64 (sq : Nat)] 29)).alloc (.cells #[.int .u64 (no : Nat), .int .i64 sz, .slice la' ls.length lc', .slice ma' ms.length mc', .int .i64 en, .int .u64 (sq : Nat)] 29))
  have B1 := hide (fun (u : World) (t : Turns (fun _ => False) w u) => bytes_any la la' ls.length ls.length lc lc' ls ls u (h.quiet t).1 (h'.quiet t).1 l1)
  have B2 := hide (fun (u : World) (t : Turns (fun _ => False) w u) => bytes_any ma ma' ms.length ms.length mc mc' ms ms u (h.quiet t).2 (h'.quiet t).2 l2)
  simp only [decide_true] at B1 B2
  unfold Tf.agg
  simp only
  clear h h'
  go_enter Try.func52, Try.ntmps52
  go_wp2_with fail
  refine (B1.out _ TA.out).mono ?_
  rintro e w1 ⟨rfl, m1, rfl⟩
  go_wp2_with fail
  refine (B2.out _ (TA.out.drewN m1)).mono ?_
  rintro e w2 ⟨rfl, m2, rfl⟩
  go_wp2_with fail
  go_ret
  exact ⟨rfl, TA.out.drewN _⟩
def KeyOk (l : List Fl) : Prop := ∀ f ∈ l, f.least.length ≤ 1000000000 ∧ f.most.length ≤ 1000000000
theorem kfiles_same (a : Option Addr) (n c : Nat) (l : List Tf) (a' : Option Addr) (n' c' : Nat) (l' : List Tf) (w : World) (h : Fils w a l) (h' : Fils w a' l') (hn : n = l.length) (hn' : n' = l'.length) (e : fls l = fls l') (hmx : n ≤ 1000000) (hk : KeyOk (fls l)) :
    Calls Try.prog 34 #[.slice a n c, .slice a' n' c'] w fun e w' => e = .returned (.bool true) ∧ Turns (fun _ => False) w w' := by
  have hnn : n' = n := by have h1 := congrArg List.length e; simp only [fls, List.length_map] at h1; omega
  subst hnn
  have H := hide h
  have H' := hide h'
  have HL := hide hn
  have HL' := hide hn'
  have HE := hide e
  have HK := hide hk
  have hni : (n' : Int) ≤ 1000000 := by omega
  clear h h' hn hn' e hk
  go_enter Try.func34, Try.ntmps34
  go_wp2_with fail
  go_loopw [5] (fun i wr => ∃ k : Nat, i = .int .i64 (k : Nat) ∧ k ≤ n' ∧ Turns (fun _ => False) w wr) (fun i _ => n' - (intOf i).toNat)
  case atStart => exact ⟨0, rfl, Nat.zero_le _, Turns.refl _ _⟩
  case round =>
    obtain ⟨k, rfl, hk, hb⟩ := hrel
    have HB := hide hb
    clear hb
    by_cases hkn : k < n'
    · obtain ⟨x, hx⟩ : ∃ x, l[k]? = some x := ⟨_, List.getElem?_eq_getElem (by have := HL.out; omega)⟩
      obtain ⟨y, hy⟩ : ∃ y, l'[k]? = some y := ⟨_, List.getElem?_eq_getElem (by have := HL'.out; omega)⟩
      have hxy : x.f = y.f := by
        have h1 := congrArg (fun q => q[k]?) HE.out
        simp only [fls_at hx, fls_at hy] at h1
        exact Option.some.inj h1
      obtain ⟨b, off, rfl, h6, hfb⟩ := fc_of (H.out.quiet HB.out) hx
      obtain ⟨b', off', rfl, h6', hfb'⟩ := fc_of (H'.out.quiet HB.out) hy
      have i1 : (k : Int) < n' := by omega
      have i0 : (0 : Int) ≤ k := by omega
      have hkk := HK.out x.f (List.mem_map.2 ⟨x, List.mem_of_getElem? hx, rfl⟩)
      have t0 : Turns (fun _ => False) wr wr.drew := (Turns.refl _ _).drew
      have HQ := hide (kfile_same x y wr.drew (hfb.quiet t0) (hfb'.quiet t0) hxy hkk.1 hkk.2)
      clear hfb hfb' hx hy t0 hxy hkk
      obtain ⟨la, lc, ma, mc, ⟨no, sz, ls, ms, en, sq⟩⟩ := x
      obtain ⟨la', lc', ma', mc', ⟨no', sz', ls', ms', en', sq'⟩⟩ := y
      obtain ⟨c0, c1, c2, c3, c4, c5⟩ := h6
      obtain ⟨d0, d1, d2, d3, d4, d5⟩ := h6'
      unfold Tf.agg at HQ
      simp only at *
      generalize ls.length = L1 at *
      generalize ms.length = L2 at *
      generalize ls'.length = L3 at *
      generalize ms'.length = L4 at *
      go_wp2_with fail
      go_region_held (fun w' => (w'.cell? ⟨b, off + k * 6, none⟩ = some (.int .u64 (no : Nat)) ∧ w'.cell? ⟨b, off + k * 6 + 1, none⟩ = some (.int .i64 sz) ∧ w'.cell? ⟨b, off + k * 6 + 2, none⟩ = some (.slice la L1 lc) ∧ w'.cell? ⟨b, off + k * 6 + 3, none⟩ = some (.slice ma L2 mc) ∧ w'.cell? ⟨b, off + k * 6 + 4, none⟩ = some (.int .i64 en) ∧ w'.cell? ⟨b, off + k * 6 + 5, none⟩ = some (.int .u64 (sq : Nat))) ∧ w'.cell? ⟨b', off' + k * 6, none⟩ = some (.int .u64 (no' : Nat)) ∧ w'.cell? ⟨b', off' + k * 6 + 1, none⟩ = some (.int .i64 sz') ∧ w'.cell? ⟨b', off' + k * 6 + 2, none⟩ = some (.slice la' L3 lc') ∧ w'.cell? ⟨b', off' + k * 6 + 3, none⟩ = some (.slice ma' L4 mc') ∧ w'.cell? ⟨b', off' + k * 6 + 4, none⟩ = some (.int .i64 en') ∧ w'.cell? ⟨b', off' + k * 6 + 5, none⟩ = some (.int .u64 (sq' : Nat))) (first | (with_reducible exact ⟨⟨f0, f1, f2, f3, f4, f5⟩, g0, g1, g2, g3, g4, g5⟩) | (simp only [World.cell?_drew]; with_reducible exact ⟨⟨c0, c1, c2, c3, c4, c5⟩, d0, d1, d2, d3, d4, d5⟩)) (first
        | (go_at_call 52; refine HQ.out.mono ?_; rintro x w2 ⟨rfl, b2⟩; have t2 := (Turns.refl (fun _ => False) wr).drew.trans b2; have f0 := t2.cell c0 (fun x => x); have f1 := t2.cell c1 (fun x => x); have f2 := t2.cell c2 (fun x => x); have f3 := t2.cell c3 (fun x => x); have f4 := t2.cell c4 (fun x => x); have f5 := t2.cell c5 (fun x => x); have g0 := t2.cell d0 (fun x => x); have g1 := t2.cell d1 (fun x => x); have g2 := t2.cell d2 (fun x => x); have g3 := t2.cell d3 (fun x => x); have g4 := t2.cell d4 (fun x => x); have g5 := t2.cell d5 (fun x => x); have T2 := hide t2; clear t2 b2))
      clear f0 f1 f2 f3 f4 f5 g0 g1 g2 g3 g4 g5
      go_wp2_with fail
      go_roundw
      case rel => exact ⟨k + 1, by go_num, by omega, HB.out.trans T2.out⟩
      case measure => simp [intOf]; omega
    · have i1 : ¬ (k : Int) < n' := by omega
      go_wp2_with fail
      go_ret
      exact ⟨rfl, HB.out⟩
end Go.Proofs.Ytkmcdjbadngfgaa
