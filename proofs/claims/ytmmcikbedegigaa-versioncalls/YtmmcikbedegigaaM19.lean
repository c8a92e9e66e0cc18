import Derived.Test.YtmmcikbedegigaaM17
/-
  The options of an edit.
-/
namespace Go.Proofs.Ytmmcikbedegigaa
open Go.RowKit
set_option maxRecDepth 100000
set_option maxHeartbeats 4000000
theorem numbered_any (x y z : Nat) (w : World) : Calls Try.prog 40 #[.int .u64 (x : Nat), .int .u64 (y : Nat), .int .u64 (z : Nat)] w fun e w' => e = .returned (.func (.func 65) #[] #[.pointer (some ⟨w.heap.size, 0, none⟩), .pointer (some ⟨w.heap.size + 1, 0, none⟩), .pointer (some ⟨w.heap.size + 2, 0, none⟩)]) ∧ w'.heap[w.heap.size]? = some (.cells #[.int .u64 (x : Nat)] 23 (0, 0)) ∧ w'.heap[w.heap.size + 1]? = some (.cells #[.int .u64 (y : Nat)] 23 (0, 0)) ∧ w'.heap[w.heap.size + 2]? = some (.cells #[.int .u64 (z : Nat)] 23 (0, 0)) ∧ Turns (fun _ => False) w w' := by
  have T := hide ((((Turns.refl (fun _ => False) w).alloc (.cells #[.int .u64 (x : Nat)] 23)).alloc (.cells #[.int .u64 (y : Nat)] 23)).alloc (.cells #[.int .u64 (z : Nat)] 23))
  have a0 := (((Turns.refl (fun _ => False) (w.alloc (.cells #[.int .u64 (x : Nat)] 23))).alloc (.cells #[.int .u64 (y : Nat)] 23)).alloc (.cells #[.int .u64 (z : Nat)] 23)).heap (heap_alloc_new w (.cells #[.int .u64 (x : Nat)] 23)) (fun x => x)
  have a1 := ((Turns.refl (fun _ => False) ((w.alloc (.cells #[.int .u64 (x : Nat)] 23)).alloc (.cells #[.int .u64 (y : Nat)] 23))).alloc (.cells #[.int .u64 (z : Nat)] 23)).heap (heap_alloc_new (w.alloc (.cells #[.int .u64 (x : Nat)] 23)) (.cells #[.int .u64 (y : Nat)] 23)) (fun x => x)
  have a2 := heap_alloc_new ((w.alloc (.cells #[.int .u64 (x : Nat)] 23)).alloc (.cells #[.int .u64 (y : Nat)] 23)) (.cells #[.int .u64 (z : Nat)] 23)
  simp only [World.size_alloc] at a1 a2
  have A0 := hide a0
  have A1 := hide a1
  have A2 := hide a2
  clear a0 a1 a2
  go_enter Try.func40, Try.ntmps40
  go_wp2_with fail
  go_ret
  exact ⟨rfl, A0.out, A1.out, A2.out, T.out⟩
theorem adding_any (lev : Int) (a : Option Addr) (n c : Nat) (w : World) : Calls Try.prog 41 #[.int .i64 lev, .slice a n c] w fun e w' => e = .returned (.func (.func 66) #[] #[.pointer (some ⟨w.heap.size + 1, 0, none⟩), .pointer (some ⟨w.heap.size, 0, none⟩)]) ∧ w'.heap[w.heap.size]? = some (.cells #[.int .i64 lev] 3 (0, 0)) ∧ w'.heap[w.heap.size + 1]? = some (.cells #[.slice a n c] 50 (0, 0)) ∧ Turns (fun _ => False) w w' := by
  have T := hide (((Turns.refl (fun _ => False) w).alloc (.cells #[.int .i64 lev] 3)).alloc (.cells #[.slice a n c] 50))
  have a0 := ((Turns.refl (fun _ => False) (w.alloc (.cells #[.int .i64 lev] 3))).alloc (.cells #[.slice a n c] 50)).heap (heap_alloc_new w (.cells #[.int .i64 lev] 3)) (fun x => x)
  have a1 := heap_alloc_new (w.alloc (.cells #[.int .i64 lev] 3)) (.cells #[.slice a n c] 50)
  simp only [World.size_alloc] at a1
  have A0 := hide a0
  have A1 := hide a1
  clear a0 a1
  go_enter Try.func41, Try.ntmps41
  go_wp2_with fail
  go_ret
  exact ⟨rfl, A0.out, A1.out, T.out⟩
theorem set_keep {w : World} {P E o : Nat} {v u : Value} (h : w.cell? ⟨P, 0, none⟩ = some u) (hne : ¬ P = E) : (w.setCell ⟨E, o, none⟩ v).cell? ⟨P, 0, none⟩ = some u :=
  (turns_setCells E o [v] w).cell h hne
theorem num1_any (E P1 P2 P3 x y z : Nat) (v0 v1 v2 v3 v4 : Value) (w : World) (hE : w.heap[E]? = some (.cells #[v0, v1, v2, v3, v4] 33 (0, 0))) (h1 : w.heap[P1]? = some (.cells #[.int .u64 (x : Nat)] 23 (0, 0))) (h2 : w.heap[P2]? = some (.cells #[.int .u64 (y : Nat)] 23 (0, 0))) (h3 : w.heap[P3]? = some (.cells #[.int .u64 (z : Nat)] 23 (0, 0))) :
    Calls Try.prog 65 #[.pointer (some ⟨E, 0, none⟩), .pointer (some ⟨P1, 0, none⟩), .pointer (some ⟨P2, 0, none⟩), .pointer (some ⟨P3, 0, none⟩)] w fun e w' => e = .returned (.tuple #[]) ∧ w'.heap[E]? = some (.cells #[v0, v1, .int .u64 (x : Nat), .int .u64 (y : Nat), .int .u64 (z : Nat)] 33 (0, 0)) ∧ Turns (fun j => j = E) w w' := by
  have n1 : ¬ P1 = E := fun e => by rw [e, hE] at h1; cases h1
  have n2 : ¬ P2 = E := fun e => by rw [e, hE] at h2; cases h2
  have n3 : ¬ P3 = E := fun e => by rw [e, hE] at h3; cases h3
  have p1 : w.cell? ⟨P1, 0, none⟩ = some (.int .u64 (x : Nat)) := cell_of_row w P1 0 _ 23 (0, 0) h1
  have p2 : w.cell? ⟨P2, 0, none⟩ = some (.int .u64 (y : Nat)) := cell_of_row w P2 0 _ 23 (0, 0) h2
  have p3 : w.cell? ⟨P3, 0, none⟩ = some (.int .u64 (z : Nat)) := cell_of_row w P3 0 _ 23 (0, 0) h3
  have tk := (((Tick.refl hE).set 2 (.int .u64 (x : Nat))).set 3 (.int .u64 (y : Nat))).set 4 (.int .u64 (z : Nat))
  have TK := hide tk
  have c2 := cell_of_row w E 2 _ 33 (0, 0) hE
  have c3 := cell_of_row w E 3 _ 33 (0, 0) hE
  have c4 := cell_of_row w E 4 _ 33 (0, 0) hE
  have f2 := frozen_of_row w E 2 _ 33 hE
  have f3 := frozen_of_row w E 3 _ 33 hE
  have f4 := frozen_of_row w E 4 _ 33 hE
  clear tk h1 h2 h3 hE
  go_enter Try.func65, Try.ntmps65
  go_wp2_with fail
  go_region_held (fun w' => w'.cell? ⟨P1, 0, none⟩ = some (.int .u64 (x : Nat)) ∧ w'.cell? ⟨P2, 0, none⟩ = some (.int .u64 (y : Nat)) ∧ w'.cell? ⟨P3, 0, none⟩ = some (.int .u64 (z : Nat))) (first | (simp only [World.cell?_drew]; with_reducible exact ⟨p1, p2, p3⟩) | exact ⟨set_keep p1 n1, set_keep p2 n2, set_keep p3 n3⟩ | exact ⟨set_keep (set_keep p1 n1) n1, set_keep (set_keep p2 n2) n2, set_keep (set_keep p3 n3) n3⟩ | exact ⟨set_keep (set_keep (set_keep p1 n1) n1) n1, set_keep (set_keep (set_keep p2 n2) n2) n2, set_keep (set_keep (set_keep p3 n3) n3) n3⟩) (fail)
  all_goals go_wp2_with fail
  all_goals go_end0
  all_goals exact ⟨rfl, TK.out.1, (Turns.of_tick TK.out).drew⟩
end Go.Proofs.Ytmmcikbedegigaa

/-
  Adds in a row of one's own.
-/
namespace Go.Proofs.Ytmmcikbedegigaa
open Go.RowKit
set_option maxRecDepth 100000
set_option maxHeartbeats 4000000
theorem t62_size : Try.t62.size = 7 := by kernel_rfl
theorem t62_bytes : Try.t62.bytes = 88 := by kernel_rfl
theorem t62_zero : Try.t62.zero = some (.agg #[.int .i64 0, .int .u64 0, .int .i64 0, .slice none 0 0, .slice none 0 0, .int .i64 0, .int .u64 0]) := by kernel_rfl
theorem info62 : Try.prog.info? 62 = some Try.t62 := by kernel_rfl
def adCell (d : Int × Tf) : List Value := .int .i64 d.1 :: d.2.cells
theorem adCell_length (d : Int × Tf) : (adCell d).length = 7 := rfl
theorem adCell_one (d : Int × Tf) (u : Value) (h : u ∈ adCell d) : u.oneCell' = true := by
  rcases List.mem_cons.1 h with rfl | h
  · rfl
  · exact d.2.cells_one u h
def adCells (A : List (Int × Tf)) : List Value := A.flatMap adCell
theorem adCells_length (A : List (Int × Tf)) : (adCells A).length = A.length * 7 := by
  induction A with
  | nil => rfl
  | cons x r ih => simp only [adCells, List.flatMap_cons, List.length_append, List.length_cons, adCell_length] at ih ⊢; omega
theorem adCells_append (A A' : List (Int × Tf)) : adCells (A ++ A') = adCells A ++ adCells A' := by simp [adCells]
theorem adCells_at : ∀ (R : List (Int × Tf)) (k : Nat) (x : Int × Tf), R[k]? = some x → ∀ j, j < 7 → (adCells R)[k * 7 + j]? = (adCell x)[j]?
  | [], k, x, h, _, _ => by simp at h
  | y :: r, 0, x, h, j, hj => by
    obtain rfl : y = x := by simpa using h
    show (adCell y ++ adCells r)[0 * 7 + j]? = _
    rw [List.getElem?_append_left (by rw [adCell_length]; omega), Nat.zero_mul, Nat.zero_add]
  | y :: r, k + 1, x, h, j, hj => by
    show (adCell y ++ adCells r)[(k + 1) * 7 + j]? = _
    rw [List.getElem?_append_right (by rw [adCell_length]; omega), adCell_length, show (k + 1) * 7 + j - 7 = k * 7 + j by omega]
    exact adCells_at r k x (by simpa using h) j hj
/-- Adds in a row of one's own, or none. -/
def ARow (w : World) (B : Nat) (a : Option Addr) (c : Nat) (A : List (Int × Tf)) : Prop := (a = none ∧ A = [] ∧ c = 0) ∨ ∃ g, a = some ⟨g, 0, none⟩ ∧ B ≤ g ∧ A.length ≤ c ∧ RowC w g 62 (c * 7) (adCells A)
theorem ARow.keep {S : Nat → Prop} {w w' : World} {B : Nat} {a : Option Addr} {c : Nat} {A : List (Int × Tf)} (h : ARow w B a c A) (t : Turns S w w') (hS : ∀ g, a = some ⟨g, 0, none⟩ → ¬ S g) : ARow w' B a c A := by
  rcases h with h | ⟨g, h1, h2, h3, h4⟩
  · exact .inl h
  · exact .inr ⟨g, h1, h2, h3, h4.turns t (hS g h1)⟩
theorem ARow.ne {w : World} {B : Nat} {a : Option Addr} {c : Nat} {A : List (Int × Tf)} (h : ARow w B a c A) {p : Nat} {cs : Array Value} {ty : TypeId} {z : Nat × Nat} (hp : w.heap[p]? = some (.cells cs ty z)) (h2 : ty ≠ 62) (g : Nat) (e : a = some ⟨g, 0, none⟩) : ¬ g = p := by
  intro e2
  subst e2
  rcases h with ⟨e3, _⟩ | ⟨g2, e3, _, _, cs2, h4, _⟩
  · rw [e3] at e; cases e
  · rw [e3] at e; cases e; rw [hp] at h4; cases h4; exact h2 rfl
theorem ARow.adds {w : World} {B : Nat} {a : Option Addr} {c : Nat} {A : List (Int × Tf)} (h : ARow w B a c A) (hb : ∀ d ∈ A, FB w d.2) : Adds w a A := fun k d hd => by
  rcases h with ⟨_, e, _⟩ | ⟨g, rfl, _, _, cs, h1, h2, h3⟩
  · rw [e] at hd; simp at hd
  · have hk := (List.getElem?_eq_some_iff.1 hd).1
    have hl := adCells_length A
    have : ∀ j, j < 7 → w.cell? ⟨g, 0 + k * 7 + j, none⟩ = (adCell d)[j]? := fun j hj => by
      rw [Nat.zero_add, cell_of_row w g _ cs 62 (0, 0) h1, h3 _ (by omega), adCells_at A k d hd j hj]
    exact ⟨⟨g, 0, rfl, this 0 (by omega), ⟨this 1 (by omega), this 2 (by omega), this 3 (by omega), this 4 (by omega), this 5 (by omega), this 6 (by omega)⟩⟩, hb d (List.mem_of_getElem? hd)⟩
theorem append_ad (w : World) (B : Nat) (a : Option Addr) (c : Nat) (A : List (Int × Tf)) (h : ARow w B a c A) (hB : B ≤ w.heap.size) (hlen : A.length ≤ 1000000) (d : Int × Tf) (g cy : Nat) (hg : w.heap[g]? = some (.cells (adCell d).toArray 62 (0, 0))) :
    ∃ (a' : Option Addr) (n' c' : Nat) (w' : World), (∀ ty, (Builtin.append_ #[31, 31] ty #[.slice a A.length c, .slice (some ⟨g, 0, none⟩) 1 cy]).run Try.prog w = .ok (.slice a' n' c') w') ∧ n' = (A ++ [d]).length ∧ ARow w' B a' c' (A ++ [d]) ∧ Turns (fun j => a = some ⟨j, 0, none⟩) w w' ∧ (∀ q, a' = some ⟨q, 0, none⟩ → a = some ⟨q, 0, none⟩ ∨ w.heap.size ≤ q) := by
  have hsrc : Src Try.prog Try.t62.size 31 (.slice (some ⟨g, 0, none⟩) 1 cy) 1 (adCell d) w := Src.ofSlice w Try.underlying31 ⟨g, 0, none⟩ 1 cy _ (by rw [t62_size]; rfl) (fun j u hu => by
    rw [Go.WideShapes.add_plain, Nat.zero_add, cell_of_row w g j _ 62 (0, 0) hg]
    simpa using hu) (fun u hu => adCell_one d u hu)
  have hbase : (a = none ∧ A.length = 0 ∧ c = 0 ∧ 0 < 1) ∨ ∃ g, a = some ⟨g, 0, none⟩ ∧ B ≤ g ∧ A.length ≤ c ∧ RowC w g 62 (c * Try.t62.size) (adCells A) := by
    rcases h with ⟨rfl, rfl, rfl⟩ | ⟨g, e, h1, h2, h3⟩
    · exact .inl ⟨rfl, rfl, rfl, by omega⟩
    · exact .inr ⟨g, e, h1, h2, by rw [t62_size]; exact h3⟩
  obtain ⟨g', cp, w', hr, hg', hrow, hb, hcp, hin, hnew, hkeep⟩ := append_gen2 (P := Try.prog) w B 31 62 Try.t62 _ Try.underlying31 info62 t62_zero rfl a A.length c (adCells A) (by rw [t62_size, adCells_length]) _ 1 _ hsrc hB hbase (by rw [t62_bytes]; omega) (by omega)
  refine ⟨some ⟨g', 0, none⟩, _, cp, w', hr, by simp, .inr ⟨g', rfl, hg', by simpa using hcp, ?_⟩, ⟨hb.os, hb.tape, hb.output, hb.size, fun k hk hn => hkeep k hk hn⟩, fun q e => ?_⟩
  · rw [t62_size] at hrow
    rw [adCells_append]
    simpa [adCells] using hrow
  · cases e
    rcases Nat.lt_or_ge c (A.length + 1) with h1 | h1
    · exact .inr (by rw [hnew h1]; exact Nat.le_refl _)
    · exact .inl (hin h1).1
end Go.Proofs.Ytmmcikbedegigaa

/-
  adding's option.
-/
namespace Go.Proofs.Ytmmcikbedegigaa
open Go.RowKit
set_option maxRecDepth 100000
set_option maxHeartbeats 4000000
def F66 (u : World) (E P2 X : Nat) (lev : Int) (sa : Option Addr) (sn sc no : Nat) (sz : Int) (la : Option Addr) (L1 lc : Nat) (ma : Option Addr) (L2 mc : Nat) (en : Int) (sq : Nat) : Prop :=
  u.cell? ⟨E, 1, none⟩ = some (.slice sa sn sc) ∧ u.cell? ⟨P2, 0, none⟩ = some (.int .i64 lev) ∧ u.cell? ⟨X, 0, none⟩ = some (.int .u64 (no : Nat)) ∧ u.cell? ⟨X, 1, none⟩ = some (.int .i64 sz) ∧ u.cell? ⟨X, 2, none⟩ = some (.slice la L1 lc) ∧ u.cell? ⟨X, 3, none⟩ = some (.slice ma L2 mc) ∧ u.cell? ⟨X, 4, none⟩ = some (.int .i64 en) ∧ u.cell? ⟨X, 5, none⟩ = some (.int .u64 (sq : Nat))
/-- How far the option has come. -/
structure Opt (w wr : World) (E B : Nat) (v0 v2 v3 v4 : Value) (ra : Option Addr) (A : List (Int × Tf)) (sa : Option Addr) (sn sc : Nat) : Prop where
  hE : wr.heap[E]? = some (.cells #[v0, .slice sa sn sc, v2, v3, v4] 33 (0, 0))
  len : sn = A.length
  row : ARow wr B sa sc A
  turn : Turns (fun j => j = E ∨ ra = some ⟨j, 0, none⟩) w wr
  new : ∀ q, sa = some ⟨q, 0, none⟩ → ra = some ⟨q, 0, none⟩ ∨ w.heap.size ≤ q
theorem ad1_any (E P1 P2 B : Nat) (lev : Int) (xa : Option Addr) (xn xc : Nat) (xl : List Tf) (ra : Option Addr) (rn rc : Nat) (A : List (Int × Tf)) (v0 v2 v3 v4 : Value) (w : World) (hE : w.heap[E]? = some (.cells #[v0, .slice ra rn rc, v2, v3, v4] 33 (0, 0))) (h1 : w.heap[P1]? = some (.cells #[.slice xa xn xc] 50 (0, 0))) (h2 : w.heap[P2]? = some (.cells #[.int .i64 lev] 3 (0, 0))) (hx : RowOk w B xa xc xl) (hxn : xn = xl.length) (hA : ARow w B ra rc A) (hrn : rn = A.length) (hB : B ≤ w.heap.size) (hmx : A.length + xn ≤ 1000000) :
    Calls Try.prog 66 #[.pointer (some ⟨E, 0, none⟩), .pointer (some ⟨P1, 0, none⟩), .pointer (some ⟨P2, 0, none⟩)] w fun e w' => e = .returned (.tuple #[]) ∧ ∃ sa sn sc, Opt w w' E B v0 v2 v3 v4 ra (A ++ xl.map fun y => (lev, y)) sa sn sc := by
  have hxi : (xn : Int) ≤ 1000000 := by omega
  have p1 := cell_of_row w P1 0 _ 50 (0, 0) h1
  have O0 := hide (show Opt w w E B v0 v2 v3 v4 ra A ra rn rc from ⟨hE, hrn, hA, Turns.refl _ _, fun q e => .inl e⟩)
  have H2 := hide h2
  have HX := hide hx
  have HXN := hide hxn
  have HBW0 := hide hB
  have HMX := hide hmx
  have HNE := hide (show ¬ P2 = E from fun e => by rw [e, hE] at h2; cases h2)
  have HEW0 := hide hE
  have HA0 := hide hA
  clear hE h1 h2 hx hxn hA hrn hB hmx
  go_enter Try.func66, Try.ntmps66
  go_wp2_with fail
  clear p1
  go_loopw [8] (fun i wr => ∃ (k : Nat) (sa : Option Addr) (sn sc : Nat), i = .int .i64 (k : Nat) ∧ k ≤ xn ∧ Opt w wr E B v0 v2 v3 v4 ra (A ++ (xl.take k).map fun y => (lev, y)) sa sn sc) (fun i _ => xn - (intOf i).toNat)
  case atStart => exact ⟨0, ra, rn, rc, rfl, Nat.zero_le _, by simpa using O0.out⟩
  case round =>
    obtain ⟨k, sa, sn, sc, rfl, hk, ho⟩ := hrel
    have HO := hide ho
    clear ho
    by_cases hkn : k < xn
    · obtain ⟨y, hy⟩ : ∃ y, xl[k]? = some y := ⟨_, List.getElem?_eq_getElem (by have := HXN.out; omega)⟩
      obtain ⟨gx0, rfl, hgB, _, hxrow⟩ : ∃ g, xa = some ⟨g, 0, none⟩ ∧ B ≤ g ∧ xl.length ≤ xc ∧ RowC w g 37 (xc * 6) (flCells xl) := by
        rcases HX.out with ⟨_, e, _⟩ | h
        · rw [e] at hy; simp at hy
        · exact h
      have hng : ¬ (gx0 = E ∨ ra = some ⟨gx0, 0, none⟩) := by
        obtain ⟨cs, hc, _⟩ := hxrow
        rintro (e | e)
        · have h3 := HEW0.out; rw [← e, hc] at h3; cases h3
        · exact HA0.out.ne hc (by decide) gx0 e rfl
      have h6 := row_f6 (hxrow.turns HO.out.turn hng) hy
      have i1 : (k : Int) < xn := by omega
      have i0 : (0 : Int) ≤ k := by omega
      have HNX := hide (show (xl.take (k + 1)).map (fun y => (lev, y)) = (xl.take k).map (fun y => (lev, y)) ++ [(lev, y)] by rw [List.take_add_one, hy, List.map_append]; rfl)
      have hE1 := HO.out.hE
      have n2 : ¬ (P2 = E ∨ ra = some ⟨P2, 0, none⟩) := by
        rintro (e | e)
        · exact HNE.out e
        · exact HA0.out.ne H2.out (by decide) P2 e rfl
      have h2' := HO.out.turn.heap H2.out n2
      obtain ⟨yy, hyy⟩ : ∃ yy, yy = y := ⟨_, rfl⟩
      have HYC0 := hide (show (adCell (lev, yy)).toArray = #[.int .i64 lev, .int .u64 (y.f.no : Nat), .int .i64 y.f.size, .slice y.la y.f.least.length y.lc, .slice y.ma y.f.most.length y.mc, .int .i64 y.f.ents, .int .u64 (y.f.seq : Nat)] by rw [hyy]; rfl)
      rw [← hyy] at HNX
      clear hyy
      obtain ⟨la, lc, ma, mc, ⟨no, sz, ls, ms, en, sq⟩⟩ := y
      obtain ⟨y0, y1, y2, y3, y4, y5⟩ := h6
      rw [Nat.zero_add] at y0 y1 y2 y3 y4 y5
      simp only at *
      generalize ls.length = L1 at *
      generalize ms.length = L2 at *
      generalize hAA : (A ++ (xl.take k).map fun y => (lev, y)) = AA at *
      have HAL := hide (show AA.length ≤ 1000000 by rw [← hAA, List.length_append, List.length_map, List.length_take]; have := HMX.out; omega)
      have HSN := hide HO.out.len.symm
      have HNX2 := hide (show A ++ (xl.take (k + 1)).map (fun y => (lev, y)) = AA ++ [(lev, yy)] by rw [HNX.out, ← hAA, List.append_assoc])
      clear hAA hy hxrow
      have TX := hide ((Turns.refl (fun _ => False) wr).alloc (.cells #[.int .u64 (no : Nat), .int .i64 sz, .slice la L1 lc, .slice ma L2 mc, .int .i64 en, .int .u64 (sq : Nat)] 37))
      have RX := hide (heap_alloc_new wr (.cells #[.int .u64 (no : Nat), .int .i64 sz, .slice la L1 lc, .slice ma L2 mc, .int .i64 en, .int .u64 (sq : Nat)] 37))
      go_upto_region 3 with (fail)
      have HAR := hide (HO.out.row.keep TX.out fun _ _ x => x)
      have HEW := hide (TX.out.heap hE1 (fun x => x))
      have H2W := hide (TX.out.heap h2' (fun x => x))
      have HBW := hide (show B ≤ (wr.alloc (.cells #[.int .u64 (no : Nat), .int .i64 sz, .slice la L1 lc, .slice ma L2 mc, .int .i64 en, .int .u64 (sq : Nat)] 37)).heap.size from Nat.le_trans HBW0.out (Nat.le_trans HO.out.turn.size TX.out.size))
      have HYC := hide (show some (Obj.cells #[.int .i64 lev, .int .u64 (no : Nat), .int .i64 sz, .slice la L1 lc, .slice ma L2 mc, .int .i64 en, .int .u64 (sq : Nat)] 62 (0, 0)) = some (.cells (adCell (lev, yy)).toArray 62 (0, 0)) by rw [HYC0.out])
      clear hE1 h2' y0 y1 y2 y3 y4 y5
      generalize wr.alloc (.cells #[.int .u64 (no : Nat), .int .i64 sz, .slice la L1 lc, .slice ma L2 mc, .int .i64 en, .int .u64 (sq : Nat)] 37) = W at *
      generalize wr.heap.size = X at *
      have NEr := hide (show ∀ g, sa = some ⟨g, 0, none⟩ → ¬ g = E from fun g e => HAR.out.ne HEW.out (by decide) g e)
      have N2r := hide (show ∀ g, sa = some ⟨g, 0, none⟩ → ¬ g = P2 from fun g e => HAR.out.ne H2W.out (by decide) g e)
      have NXr := hide (show ∀ g, sa = some ⟨g, 0, none⟩ → ¬ g = X from fun g e => HAR.out.ne RX.out (by decide) g e)
      have tV : Turns (fun j => sa = some ⟨j, 0, none⟩) W W.drew := (Turns.refl _ _).drew
      have tF : Turns (fun _ => False) W W.drew := (Turns.refl _ _).drew
      have SK := hide (fun (u : World) (t : Turns (fun j => sa = some ⟨j, 0, none⟩) W u) => show F66 u E P2 X lev sa sn sc no sz la L1 lc ma L2 mc en sq from ⟨t.cell (cell_of_row W E 1 _ 33 (0, 0) HEW.out) (fun e => NEr.out _ e rfl), t.cell (cell_of_row W P2 0 _ 3 (0, 0) H2W.out) (fun e => N2r.out _ e rfl), t.cell (cell_of_row W X 0 _ 37 (0, 0) RX.out) (fun e => NXr.out _ e rfl), t.cell (cell_of_row W X 1 _ 37 (0, 0) RX.out) (fun e => NXr.out _ e rfl), t.cell (cell_of_row W X 2 _ 37 (0, 0) RX.out) (fun e => NXr.out _ e rfl), t.cell (cell_of_row W X 3 _ 37 (0, 0) RX.out) (fun e => NXr.out _ e rfl), t.cell (cell_of_row W X 4 _ 37 (0, 0) RX.out) (fun e => NXr.out _ e rfl), t.cell (cell_of_row W X 5 _ 37 (0, 0) RX.out) (fun e => NXr.out _ e rfl)⟩)
      refine wp_region_z_drew 12 (S := fun u => F66 u E P2 X lev sa sn sc no sz la L1 lc ma L2 mc en sq) (by kernel_rfl) (SK.out _ tV) (fun _ => ?_)
      change wpAnyZ _ _ _ _ _ _ 13 (Array.replicate 13 false) _ _
      refine wpAnyZ_take (i := 0) (oi := { dst := some 12, op := Op.move (Operand.tmp 0), type := 96, pos := "edit.go:34", after := #[], guard := none }) (v := .pointer (some ⟨E, 0, none⟩)) rfl (by kernel_rfl) (by kernel_rfl) (by kernel_rfl) (by kernel_rfl) (fun _ _ _ h => h) (Or.inl ⟨by rfl, ?_⟩) (SK.out _ tV) ?_
      · rintro w ⟨s0, s1, d0, d1, d2, d3, d4, d5⟩
        go_simp
      simp only [Act.put, List.setIfInBounds_toArray, List.set_cons_zero, List.set_cons_succ]
      refine wpAnyZ_take (i := 1) (oi := { dst := some 13, op := Op.move (Operand.tmp 0), type := 96, pos := "edit.go:34", after := #[], guard := none }) (v := .pointer (some ⟨E, 0, none⟩)) rfl (by kernel_rfl) (by kernel_rfl) (by kernel_rfl) (by kernel_rfl) (fun _ _ _ h => h) (Or.inl ⟨by rfl, ?_⟩) (SK.out _ tV) ?_
      · rintro w ⟨s0, s1, d0, d1, d2, d3, d4, d5⟩
        go_simp
      simp only [Act.put, List.setIfInBounds_toArray, List.set_cons_zero, List.set_cons_succ]
      refine wpAnyZ_take (i := 2) (oi := { dst := some 14, op := Op.nilCheck (Operand.tmp 13), type := 0, pos := "edit.go:34", after := #[{ on := 1, ground := Ground.data }], guard := none }) (v := .pointer (some ⟨E, 0, none⟩)) rfl (by kernel_rfl) (by kernel_rfl) (by kernel_rfl) (by kernel_rfl) (fun _ _ _ h => h) (Or.inl ⟨by rfl, ?_⟩) (SK.out _ tV) ?_
      · rintro w ⟨s0, s1, d0, d1, d2, d3, d4, d5⟩
        go_simp
      simp only [Act.put, List.setIfInBounds_toArray, List.set_cons_zero, List.set_cons_succ]
      refine wpAnyZ_take (i := 3) (oi := { dst := some 15, op := Op.fieldAddr 33 (Operand.tmp 14) 1, type := 0, pos := "edit.go:34", after := #[{ on := 2, ground := Ground.data }], guard := none }) (v := .pointer (some ⟨E, 1, none⟩)) rfl (by kernel_rfl) (by kernel_rfl) (by kernel_rfl) (by kernel_rfl) (fun _ _ _ h => h) (Or.inl ⟨by rfl, ?_⟩) (SK.out _ tV) ?_
      · rintro w ⟨s0, s1, d0, d1, d2, d3, d4, d5⟩
        go_simp
      simp only [Act.put, List.setIfInBounds_toArray, List.set_cons_zero, List.set_cons_succ]
      refine wpAnyZ_take (i := 4) (oi := { dst := some 16, op := Op.load 31 (Operand.tmp 15), type := 31, pos := "edit.go:34", after := #[{ on := 3, ground := Ground.data }], guard := none }) (v := .slice sa sn sc) rfl (by kernel_rfl) (by kernel_rfl) (by kernel_rfl) (by kernel_rfl) (fun _ _ _ h => h) (Or.inl ⟨by rfl, ?_⟩) (SK.out _ tV) ?_
      · rintro w ⟨s0, s1, d0, d1, d2, d3, d4, d5⟩
        go_simp
      simp only [Act.put, List.setIfInBounds_toArray, List.set_cons_zero, List.set_cons_succ]
      refine wpAnyZ_take (i := 5) (oi := { dst := some 17, op := Op.load 3 (Operand.tmp 2), type := 3, pos := "edit.go:34", after := #[], guard := none }) (v := .int .i64 lev) rfl (by kernel_rfl) (by kernel_rfl) (by kernel_rfl) (by kernel_rfl) (fun _ _ _ h => h) (Or.inl ⟨by rfl, ?_⟩) (SK.out _ tV) ?_
      · rintro w ⟨s0, s1, d0, d1, d2, d3, d4, d5⟩
        go_simp
      simp only [Act.put, List.setIfInBounds_toArray, List.set_cons_zero, List.set_cons_succ]
      refine wpAnyZ_take (i := 6) (oi := { dst := some 18, op := Op.load 37 (Operand.tmp 5), type := 37, pos := "edit.go:34", after := #[], guard := none }) (v := .agg #[.int .u64 (no : Nat), .int .i64 sz, .slice la L1 lc, .slice ma L2 mc, .int .i64 en, .int .u64 (sq : Nat)]) rfl (by kernel_rfl) (by kernel_rfl) (by kernel_rfl) (by kernel_rfl) (fun _ _ _ h => h) (Or.inl ⟨by rfl, ?_⟩) (SK.out _ tV) ?_
      · rintro w ⟨s0, s1, d0, d1, d2, d3, d4, d5⟩
        go_simp
      simp only [Act.put, List.setIfInBounds_toArray, List.set_cons_zero, List.set_cons_succ]
      refine wpAnyZ_take (i := 7) (oi := { dst := some 19, op := Op.build 62 #[(0, Operand.tmp 17), (1, Operand.tmp 18)], type := 62, pos := "edit.go:34", after := #[{ on := 5, ground := Ground.data }, { on := 6, ground := Ground.data }], guard := none }) (v := .agg #[.int .i64 lev, .int .u64 (no : Nat), .int .i64 sz, .slice la L1 lc, .slice ma L2 mc, .int .i64 en, .int .u64 (sq : Nat)]) rfl (by kernel_rfl) (by kernel_rfl) (by kernel_rfl) (by kernel_rfl) (fun _ _ _ h => h) (Or.inl ⟨by rfl, ?_⟩) (SK.out _ tV) ?_
      · rintro w ⟨s0, s1, d0, d1, d2, d3, d4, d5⟩
        go_simp
      simp only [Act.put, List.setIfInBounds_toArray, List.set_cons_zero, List.set_cons_succ]
      generalize W.drew = Wd at *
      obtain ⟨uA, huA⟩ : ∃ uA, uA = Wd.alloc (.cells #[.int .i64 lev, .int .u64 (no : Nat), .int .i64 sz, .slice la L1 lc, .slice ma L2 mc, .int .i64 en, .int .u64 (sq : Nat)] 62) := ⟨_, rfl⟩
      have hnA : uA.heap[Wd.heap.size]? = some (.cells #[.int .i64 lev, .int .u64 (no : Nat), .int .i64 sz, .slice la L1 lc, .slice ma L2 mc, .int .i64 en, .int .u64 (sq : Nat)] 62) := by rw [huA]; exact heap_alloc_new _ _
      have tA : Turns (fun _ => False) Wd uA := by rw [huA]; exact (Turns.refl _ _).alloc _
      refine wpAnyZ_ready (rs := [8]) (by kernel_rfl) (by simp) ?_
      refine AllReadyZ.cons rfl (fun K hK => ?_) AllReadyZ.nil
      go_simp
      rw [← huA]
      have tF := tF.trans tA
      have tV := tV.trans (tA.mono (S' := fun j => sa = some ⟨j, 0, none⟩) fun _ _ x => x.elim)
      refine hK.out _ _ (SK.out _ tV) (fun _ => ?_)
      clear hK K huA tA
      obtain ⟨a5, n5, c5, w5, hr5, hn5, hro5, ht5, hq5⟩ := append_ad uA B sa sc AA (HAR.out.keep tF fun _ _ x => x) (Nat.le_trans HBW.out tF.size) HAL.out (lev, yy) Wd.heap.size 1 (by rw [hnA]; exact HYC.out)
      rw [HSN.out] at hr5
      have tV5 := tV.trans ht5
      refine wpAnyZ_ready (rs := [9]) (by kernel_rfl) (by simp) ?_
      refine AllReadyZ.cons rfl (fun K hK => ?_) AllReadyZ.nil
      refine step_append_run rfl _ _ 31 rfl (.slice sa sn sc) (.slice (some ⟨Wd.heap.size, 0, none⟩) 1 1) rfl rfl _ _ (hr5 _) 21 rfl ?_
      refine hK.out _ _ (SK.out _ tV5) (fun _ => ?_)
      clear hK K
      simp only [Act.put, List.setIfInBounds_toArray, List.set_cons_zero, List.set_cons_succ]
      have tV := tV5
      refine wpAnyZ_late (i := 10) (oi := { dst := some 22, op := Op.nilCheck (Operand.tmp 12), type := 0, pos := "edit.go:34", after := #[{ on := 0, ground := Ground.data }, { on := 0, ground := Ground.phase }, { on := 1, ground := Ground.phase }, { on := 2, ground := Ground.phase }, { on := 3, ground := Ground.phase }, { on := 4, ground := Ground.phase }, { on := 5, ground := Ground.phase }, { on := 6, ground := Ground.phase }, { on := 7, ground := Ground.phase }, { on := 8, ground := Ground.phase }, { on := 9, ground := Ground.phase }], guard := none }) (v := .pointer (some ⟨E, 0, none⟩)) rfl (by kernel_rfl) (by kernel_rfl) (by kernel_rfl) (by kernel_rfl) (fun _ _ _ h => h) (Or.inl ⟨by rfl, ?_⟩) (.inr (SK.out _ tV)) ?_
      · rintro w -
        go_simp
      simp only [Act.put, List.setIfInBounds_toArray, List.set_cons_zero, List.set_cons_succ]
      refine wpAnyZ_take (i := 11) (oi := { dst := some 23, op := Op.fieldAddr 33 (Operand.tmp 22) 1, type := 0, pos := "edit.go:34", after := #[{ on := 10, ground := Ground.data }, { on := 0, ground := Ground.phase }, { on := 1, ground := Ground.phase }, { on := 2, ground := Ground.phase }, { on := 3, ground := Ground.phase }, { on := 4, ground := Ground.phase }, { on := 5, ground := Ground.phase }, { on := 6, ground := Ground.phase }, { on := 7, ground := Ground.phase }, { on := 8, ground := Ground.phase }, { on := 9, ground := Ground.phase }], guard := none }) (v := .pointer (some ⟨E, 1, none⟩)) rfl (by kernel_rfl) (by kernel_rfl) (by kernel_rfl) (by kernel_rfl) (fun _ _ _ h => h) (Or.inl ⟨by rfl, ?_⟩) (SK.out _ tV) ?_
      · rintro w ⟨s0, s1, d0, d1, d2, d3, d4, d5⟩
        go_simp
      simp only [Act.put, List.setIfInBounds_toArray, List.set_cons_zero, List.set_cons_succ]
      have hE5 := tV5.heap HEW.out (fun e => HAR.out.ne HEW.out (by decide) E e rfl)
      have e1 := cell_of_row w5 E 1 _ 33 (0, 0) hE5
      have z1 := frozen_of_row w5 E 1 _ 33 hE5
      have TK := hide ((Tick.refl hE5).set 1 (.slice a5 n5 c5))
      have TV := hide tV5
      have RO5 := hide hro5
      have HN5 := hide hn5
      have HQ5 := hide hq5
      have TF := hide tF
      clear hE5 tV tV5 tF hro5 hn5 hq5 hr5 ht5 hnA
      refine wpAnyZ_ready (rs := [12]) (by kernel_rfl) (by simp) ?_
      refine AllReadyZ.free rfl (by kernel_rfl) (fun K hK => ?_) AllReadyZ.nil
      go_simp
      refine hK.out _ _ ?_
      clear hK K
      refine wpAnyZ_done (by kernel_rfl) ?_ _
      have REL := hide (show Opt w (w5.setCell ⟨E, 1, none⟩ (.slice a5 n5 c5)) E B v0 v2 v3 v4 ra (A ++ (xl.take (k + 1)).map fun y => (lev, y)) a5 n5 c5 from by
        rw [HNX2.out]
        have u := Turns.of_tick TK.out
        refine ⟨TK.out.1, HN5.out, RO5.out.keep u fun g e e2 => ?_, ?_, fun q e => ?_⟩
        · have hE5 : w5.heap[E]? = some (.cells #[v0, .slice sa sn sc, v2, v3, v4] 33 (0, 0)) := TV.out.heap HEW.out (fun e => NEr.out _ e rfl)
          exact RO5.out.ne hE5 (by decide) g e e2
        · refine ((HO.out.turn.trans (TX.out.mono fun _ _ x => x.elim)).andThen TV.out fun j hj e => ?_).trans (u.mono fun j _ e => .inl e)
          rcases HO.out.new j e with h3 | h3
          · exact .inr h3
          · omega
        · rcases HQ5.out q e with h3 | h3
          · exact HO.out.new q h3
          · refine .inr ?_
            have h4 := TF.out.size
            have h5 := TX.out.size
            have h6 := HO.out.turn.size
            omega)
      clear TV RO5 HN5 HQ5 TF TK e1 z1
      go_wp2_with fail
      go_roundw
      case rel => exact ⟨k + 1, a5, n5, c5, by go_num, by omega, REL.out⟩
      case measure => simp [intOf]; omega
    · obtain rfl : k = xn := by omega
      have htk : xl.take k = xl := List.take_of_length_le (by have := HXN.out; omega)
      rw [htk] at HO
      clear htk
      go_wp2_with fail
      go_end0
      exact ⟨rfl, sa, sn, sc, HO.out⟩
end Go.Proofs.Ytmmcikbedegigaa

/-
  The kit's comparisons, of what is the same.
-/
namespace Go.Proofs.Ytmmcikbedegigaa
open Go.RowKit
set_option maxRecDepth 100000
set_option maxHeartbeats 4000000
theorem kfile_same (x y : Tf) (w : World) (h : FB w x) (h' : FB w y) (e : x.f = y.f) (l1 : x.f.least.length ≤ 1000000000) (l2 : x.f.most.length ≤ 1000000000) : Calls Try.prog 46 #[x.agg, y.agg] w fun e w' => e = .returned (.bool true) ∧ Turns (fun _ => False) w w' := by
  obtain ⟨la, lc, ma, mc, ⟨no, sz, ls, ms, en, sq⟩⟩ := x
  obtain ⟨la', lc', ma', mc', f'⟩ := y
  simp only at e
  subst e
  have TA := hide (((Turns.refl (fun _ => False) w).alloc (.cells #[.int .u64 (no : Nat), .int .i64 sz, .slice la ls.length lc, .slice ma ms.length mc, .int .i64 en, .int .u64 (sq : Nat)] 37)).alloc (.cells #[.int .u64 (no : Nat), .int .i64 sz, .slice la' ls.length lc', .slice ma' ms.length mc', .int .i64 en, .int .u64 (sq : Nat)] 37))
  have B1 := hide (fun (u : World) (t : Turns (fun _ => False) w u) => bytes_any la la' ls.length ls.length lc lc' ls ls u (h.quiet t).1 (h'.quiet t).1 l1)
  have B2 := hide (fun (u : World) (t : Turns (fun _ => False) w u) => bytes_any ma ma' ms.length ms.length mc mc' ms ms u (h.quiet t).2 (h'.quiet t).2 l2)
  simp only [decide_true] at B1 B2
  unfold Tf.agg
  simp only
  clear h h'
  go_enter Try.func46, Try.ntmps46
  go_wp2_with fail
  refine (B1.out _ TA.out).mono ?_
  rintro e w1 ⟨rfl, m1, rfl⟩
  go_wp2_with fail
  refine (B2.out _ (TA.out.drewN m1)).mono ?_
  rintro e w2 ⟨rfl, m2, rfl⟩
  go_wp2_with fail
  go_ret
  exact ⟨rfl, TA.out.drewN _⟩
def KeyOk (l : List Fl) : Prop := ∀ f ∈ l, f.least.length ≤ 1000000000 ∧ f.most.length ≤ 1000000000
theorem kfiles_same (a : Option Addr) (n c : Nat) (l : List Tf) (a' : Option Addr) (n' c' : Nat) (l' : List Tf) (w : World) (h : Fils w a l) (h' : Fils w a' l') (hn : n = l.length) (hn' : n' = l'.length) (e : fls l = fls l') (hmx : n ≤ 1000000) (hk : KeyOk (fls l)) :
    Calls Try.prog 21 #[.slice a n c, .slice a' n' c'] w fun e w' => e = .returned (.bool true) ∧ Turns (fun _ => False) w w' := by
  have hnn : n' = n := by have h1 := congrArg List.length e; simp only [fls, List.length_map] at h1; omega
  subst hnn
  have H := hide h
  have H' := hide h'
  have HL := hide hn
  have HL' := hide hn'
  have HE := hide e
  have HK := hide hk
  have hni : (n' : Int) ≤ 1000000 := by omega
  clear h h' hn hn' e hk
  go_enter Try.func21, Try.ntmps21
  go_wp2_with fail
  go_loopw [5] (fun i wr => ∃ k : Nat, i = .int .i64 (k : Nat) ∧ k ≤ n' ∧ Turns (fun _ => False) w wr) (fun i _ => n' - (intOf i).toNat)
  case atStart => exact ⟨0, rfl, Nat.zero_le _, Turns.refl _ _⟩
  case round =>
    obtain ⟨k, rfl, hk, hb⟩ := hrel
    have HB := hide hb
    clear hb
    by_cases hkn : k < n'
    · obtain ⟨x, hx⟩ : ∃ x, l[k]? = some x := ⟨_, List.getElem?_eq_getElem (by have := HL.out; omega)⟩
      obtain ⟨y, hy⟩ : ∃ y, l'[k]? = some y := ⟨_, List.getElem?_eq_getElem (by have := HL'.out; omega)⟩
      have hxy : x.f = y.f := by
        have h1 := congrArg (fun q => q[k]?) HE.out
        simp only [fls_at hx, fls_at hy] at h1
        exact Option.some.inj h1
      obtain ⟨b, off, rfl, h6, hfb⟩ := fc_of (H.out.quiet HB.out) hx
      obtain ⟨b', off', rfl, h6', hfb'⟩ := fc_of (H'.out.quiet HB.out) hy
      have i1 : (k : Int) < n' := by omega
      have i0 : (0 : Int) ≤ k := by omega
      have hkk := HK.out x.f (List.mem_map.2 ⟨x, List.mem_of_getElem? hx, rfl⟩)
      have t0 : Turns (fun _ => False) wr wr.drew := (Turns.refl _ _).drew
      have HQ := hide (kfile_same x y wr.drew (hfb.quiet t0) (hfb'.quiet t0) hxy hkk.1 hkk.2)
      clear hfb hfb' hx hy t0 hxy hkk
      obtain ⟨la, lc, ma, mc, ⟨no, sz, ls, ms, en, sq⟩⟩ := x
      obtain ⟨la', lc', ma', mc', ⟨no', sz', ls', ms', en', sq'⟩⟩ := y
      obtain ⟨c0, c1, c2, c3, c4, c5⟩ := h6
      obtain ⟨d0, d1, d2, d3, d4, d5⟩ := h6'
      unfold Tf.agg at HQ
      simp only at *
      generalize ls.length = L1 at *
      generalize ms.length = L2 at *
      generalize ls'.length = L3 at *
      generalize ms'.length = L4 at *
      go_wp2_with fail
      go_region_held (fun w' => (w'.cell? ⟨b, off + k * 6, none⟩ = some (.int .u64 (no : Nat)) ∧ w'.cell? ⟨b, off + k * 6 + 1, none⟩ = some (.int .i64 sz) ∧ w'.cell? ⟨b, off + k * 6 + 2, none⟩ = some (.slice la L1 lc) ∧ w'.cell? ⟨b, off + k * 6 + 3, none⟩ = some (.slice ma L2 mc) ∧ w'.cell? ⟨b, off + k * 6 + 4, none⟩ = some (.int .i64 en) ∧ w'.cell? ⟨b, off + k * 6 + 5, none⟩ = some (.int .u64 (sq : Nat))) ∧ w'.cell? ⟨b', off' + k * 6, none⟩ = some (.int .u64 (no' : Nat)) ∧ w'.cell? ⟨b', off' + k * 6 + 1, none⟩ = some (.int .i64 sz') ∧ w'.cell? ⟨b', off' + k * 6 + 2, none⟩ = some (.slice la' L3 lc') ∧ w'.cell? ⟨b', off' + k * 6 + 3, none⟩ = some (.slice ma' L4 mc') ∧ w'.cell? ⟨b', off' + k * 6 + 4, none⟩ = some (.int .i64 en') ∧ w'.cell? ⟨b', off' + k * 6 + 5, none⟩ = some (.int .u64 (sq' : Nat))) (first | (with_reducible exact ⟨⟨f0, f1, f2, f3, f4, f5⟩, g0, g1, g2, g3, g4, g5⟩) | (simp only [World.cell?_drew]; with_reducible exact ⟨⟨c0, c1, c2, c3, c4, c5⟩, d0, d1, d2, d3, d4, d5⟩)) (first
        | (go_at_call 46; refine HQ.out.mono ?_; rintro x w2 ⟨rfl, b2⟩; have t2 := (Turns.refl (fun _ => False) wr).drew.trans b2; have f0 := t2.cell c0 (fun x => x); have f1 := t2.cell c1 (fun x => x); have f2 := t2.cell c2 (fun x => x); have f3 := t2.cell c3 (fun x => x); have f4 := t2.cell c4 (fun x => x); have f5 := t2.cell c5 (fun x => x); have g0 := t2.cell d0 (fun x => x); have g1 := t2.cell d1 (fun x => x); have g2 := t2.cell d2 (fun x => x); have g3 := t2.cell d3 (fun x => x); have g4 := t2.cell d4 (fun x => x); have g5 := t2.cell d5 (fun x => x); have T2 := hide t2; clear t2 b2))
      clear f0 f1 f2 f3 f4 f5 g0 g1 g2 g3 g4 g5
      go_wp2_with fail
      go_roundw
      case rel => exact ⟨k + 1, by go_num, by omega, HB.out.trans T2.out⟩
      case measure => simp [intOf]; omega
    · have i1 : ¬ (k : Int) < n' := by omega
      go_wp2_with fail
      go_ret
      exact ⟨rfl, HB.out⟩
end Go.Proofs.Ytmmcikbedegigaa
