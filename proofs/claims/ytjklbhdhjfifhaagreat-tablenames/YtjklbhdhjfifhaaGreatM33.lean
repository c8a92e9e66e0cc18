import Derived.Test.YtjklbhdhjfifhaaGreatM32
import Derived.Test.YtjklbhdhjfifhaaGreatM06
import Derived.Test.YtjklbhdhjfifhaaGreatM23
import Derived.Test.YtjklbhdhjfifhaaGreatM17
import Derived.Deep.RegionHeld
import Derived.Deep.Light
/-
  Where a table's blocks stand.
-/
namespace Go.Proofs.YtjklbhdhjfifhaaGreat
open Go.RowKit
set_option maxRecDepth 100000
set_option maxHeartbeats 4000000
/-- A block's place: where its frame stands, how long it is, its last entry. -/
structure Plc where
  pos : Nat
  size : Nat
  t : Tow
def Plc.cells (p : Plc) : List Value := [.int .i64 (p.pos : Nat), .int .i64 (p.size : Nat), p.t.kv, .int .u64 (p.t.e.seq : Nat), .int .i64 p.t.e.kind, p.t.vv]
def plcCells (l : List Plc) : List Value := l.flatMap Plc.cells
theorem plcCells_length (l : List Plc) : (plcCells l).length = l.length * 6 := by
  induction l with
  | nil => rfl
  | cons x r ih =>
    rw [show plcCells (x :: r) = x.cells ++ plcCells r from rfl, List.length_append, ih, show x.cells.length = 6 from rfl, List.length_cons]
    omega
theorem plcCells_at : ∀ (l : List Plc) (k : Nat) (x : Plc), l[k]? = some x → ∀ j u, x.cells[j]? = some u → (plcCells l)[k * 6 + j]? = some u
  | [], k, x, h, j, u, hu => by simp at h
  | y :: s, 0, x, h, j, u, hu => by
    obtain rfl : y = x := by simpa using h
    rw [show plcCells (y :: s) = y.cells ++ plcCells s from rfl, Nat.zero_mul, Nat.zero_add, List.getElem?_append_left (List.getElem?_eq_some_iff.1 hu).1]
    exact hu
  | y :: s, k + 1, x, h, j, u, hu => by
    rw [show plcCells (y :: s) = y.cells ++ plcCells s from rfl, List.getElem?_append_right (by simp [Plc.cells]; omega)]
    have := plcCells_at s k x (by simpa using h) j u hu
    rw [← this]
    congr 1
    simp [Plc.cells]
    omega
/-- Places in a row of one's own. -/
def PRow (w : World) (B : Nat) (v : Value) (R : List Plc) : Prop :=
  (R = [] ∧ v = .slice none 0 0) ∨ ∃ g c n : Nat, v = .slice (some ⟨g, 0, none⟩) n c ∧ n = R.length ∧ n ≤ c ∧ B ≤ g ∧ RowC w g 147 (c * 6) (plcCells R)
theorem PRow.len {w : World} {B : Nat} {v : Value} {R : List Plc} (h : PRow w B v R) : ∃ a c, v = .slice a R.length c := by
  rcases h with ⟨rfl, rfl⟩ | ⟨g, c, n, rfl, rfl, _⟩
  · exact ⟨none, 0, rfl⟩
  · exact ⟨_, _, rfl⟩
theorem PRow.keep {S : Nat → Prop} {w w' : World} {B : Nat} {v : Value} {R : List Plc} (h : PRow w B v R) (t : Turns S w w') (hn : ∀ k, inRow v k → ¬ S k) : PRow w' B v R := by
  rcases h with h | ⟨g, c, n, h1, h2, h3, h4, cs, h5, h6, h7⟩
  · exact .inl h
  · exact .inr ⟨g, c, n, h1, h2, h3, h4, cs, t.heap h5 (hn g ⟨n, c, h1⟩), h6, h7⟩
theorem PRow.le {w : World} {B B' : Nat} {v : Value} {R : List Plc} (h : PRow w B v R) (hB : B' ≤ B) : PRow w B' v R := by
  rcases h with h | ⟨g, c, n, h1, h2, h3, h4, h5⟩
  · exact .inl h
  · exact .inr ⟨g, c, n, h1, h2, h3, Nat.le_trans hB h4, h5⟩
theorem PRow.row {w : World} {B : Nat} {v : Value} {R : List Plc} (h : PRow w B v R) {k : Nat} (hk : inRow v k) : B ≤ k ∧ k < w.heap.size := by
  obtain ⟨n', c', e⟩ := hk
  rcases h with ⟨_, rfl⟩ | ⟨g, c, n, rfl, _, _, hB, cs, h1, _⟩
  · cases e
  · cases e; exact ⟨hB, lt_of_heap h1⟩
theorem PRow.at_ {w : World} {B : Nat} {v : Value} {R : List Plc} (h : PRow w B v R) {i : Nat} {x : Plc} (hx : R[i]? = some x) : ∃ g c, v = .slice (some ⟨g, 0, none⟩) R.length c ∧ ∀ j u, x.cells[j]? = some u → w.cell? ⟨g, i * 6 + j, none⟩ = some u := by
  rcases h with ⟨rfl, _⟩ | ⟨g, c, n, rfl, rfl, _, _, cs, h1, h2, h3⟩
  · simp at hx
  · refine ⟨g, c, rfl, fun j u hu => ?_⟩
    have h4 := plcCells_at R i x hx j u hu
    rw [cell_of_row w g _ cs 147 (0, 0) h1, h3 _ (List.getElem?_eq_some_iff.1 h4).1, h4]
theorem t147_size : Tryz.t147.size = 6 := by kernel_rfl
theorem t147_bytes : Tryz.t147.bytes = 80 := by kernel_rfl
theorem t147_info : Tryz.prog.info? 147 = some Tryz.t147 := by kernel_rfl
theorem t147_zero : Tryz.t147.zero = some (.agg #[.int .i64 0, .int .i64 0, .slice none 0 0, .int .u64 0, .int .i64 0, .slice none 0 0]) := by kernel_rfl
theorem append_plc (w : World) (B : Nat) (v : Value) (R : List Plc) (h : PRow w B v R) (hB : B ≤ w.heap.size) (hlen : R.length ≤ 1000000000) (x : Plc) (g c : Nat) (hg : w.heap[g]? = some (.cells #[.int .i64 (x.pos : Nat), .int .i64 (x.size : Nat), x.t.kv, .int .u64 (x.t.e.seq : Nat), .int .i64 x.t.e.kind, x.t.vv] 147 (0, 0))) :
    ∃ (g' n' c' : Nat) (w' : World), (∀ ty, (Builtin.append_ #[53, 53] ty #[v, .slice (some ⟨g, 0, none⟩) 1 c]).run Tryz.prog w = .ok (.slice (some ⟨g', 0, none⟩) n' c') w') ∧ PRow w' B (.slice (some ⟨g', 0, none⟩) n' c') (R ++ [x]) ∧ Turns (inRow v) w w' ∧ Below B w w' ∧ (inRow v g' ∨ g' = w.heap.size) := by
  have hsrc : Src Tryz.prog Tryz.t147.size 53 (.slice (some ⟨g, 0, none⟩) 1 c) 1 x.cells w := Src.ofSlice w Tryz.underlying53 ⟨g, 0, none⟩ 1 c _ (by rw [t147_size]; rfl) (fun j u hu => by
    rw [Go.WideShapes.add_plain, Nat.zero_add, cell_of_row w g j _ 147 (0, 0) hg]
    simpa [Plc.cells] using hu) (fun u hu => by
    simp only [Plc.cells, List.mem_cons, List.not_mem_nil, or_false] at hu
    rcases hu with rfl | rfl | rfl | rfl | rfl | rfl <;> rfl)
  obtain ⟨base, sLen, sCap, rfl, hsl, hbase⟩ : ∃ (base : Option Addr) (sLen sCap : Nat), v = .slice base sLen sCap ∧ sLen = R.length ∧ ((base = none ∧ sLen = 0 ∧ sCap = 0 ∧ 0 < 1) ∨ ∃ g, base = some ⟨g, 0, none⟩ ∧ B ≤ g ∧ sLen ≤ sCap ∧ RowC w g 147 (sCap * Tryz.t147.size) (plcCells R)) := by
    rcases h with ⟨rfl, rfl⟩ | ⟨g, c, n, rfl, rfl, h3, h4, h5⟩
    · exact ⟨none, 0, 0, rfl, rfl, .inl ⟨rfl, rfl, rfl, by omega⟩⟩
    · exact ⟨_, _, _, rfl, rfl, .inr ⟨g, rfl, h4, h3, by rw [t147_size]; exact h5⟩⟩
  obtain ⟨g', cp, w', hr, hg', hrow, hb, hcp, hin, hnew, hkeep⟩ := append_gen2 (P := Tryz.prog) w B 53 147 Tryz.t147 _ Tryz.underlying53 t147_info t147_zero rfl base sLen sCap (plcCells R) (by rw [t147_size, hsl, plcCells_length]) _ 1 _ hsrc hB hbase (by rw [t147_bytes]; omega) (by omega)
  refine ⟨g', _, cp, w', hr, .inr ⟨g', cp, _, rfl, by simp [hsl], hcp, hg', ?_⟩, ⟨hb.os, hb.tape, hb.output, hb.size, fun k hk hn => hkeep k hk fun e => hn ⟨sLen, sCap, by rw [e]⟩⟩, hb, ?_⟩
  · rw [t147_size] at hrow
    rw [show plcCells (R ++ [x]) = plcCells R ++ x.cells by simp [plcCells]]
    exact hrow
  · rcases Nat.lt_or_ge sCap (sLen + 1) with h1 | h1
    · exact .inr (hnew h1)
    · exact .inl ⟨sLen, sCap, by rw [(hin h1).1]⟩
/-- Where the last block's frame ends. -/
def endP (l : List Plc) : Nat := match l.getLast? with
  | some p => p.pos + p.size
  | none => 0
theorem placeEnd_any (p : Plc) (hp : p.pos + p.size ≤ 1000000000) (w : World) : Calls Tryz.prog 88 #[.agg #[.int .i64 (p.pos : Nat), .int .i64 (p.size : Nat), p.t.kv, .int .u64 (p.t.e.seq : Nat), .int .i64 p.t.e.kind, p.t.vv]] w fun e w' => e = .returned (.int .i64 ((p.pos + p.size : Nat) : Int)) ∧ Below w.heap.size w w' := by
  obtain ⟨pos, size, t⟩ := p
  have HB := hide (show Below w.heap.size w (w.alloc (.cells #[.int .i64 (pos : Nat), .int .i64 (size : Nat), t.kv, .int .u64 (t.e.seq : Nat), .int .i64 t.e.kind, t.vv] 147)) from (Below.refl _ _).alloc (Nat.le_refl _) _)
  simp only at hp
  go_enter Tryz.func88, Tryz.ntmps88
  go_wp2_with fail
  go_ret
  exact ⟨by go_num, HB.out⟩
def End57 (u : World) (b o g m pc pos size : Nat) (t : Tow) : Prop :=
  u.cell? ⟨b, o, none⟩ = some (.slice (some ⟨g, 0, none⟩) (m + 1) pc) ∧ u.cell? ⟨g, m * 6, none⟩ = some (.int .i64 (pos : Nat)) ∧ u.cell? ⟨g, m * 6 + 1, none⟩ = some (.int .i64 (size : Nat)) ∧ u.cell? ⟨g, m * 6 + 2, none⟩ = some (.slice t.ka t.e.key.length t.kc) ∧ u.cell? ⟨g, m * 6 + 3, none⟩ = some (.int .u64 (t.e.seq : Nat)) ∧ u.cell? ⟨g, m * 6 + 4, none⟩ = some (.int .i64 t.e.kind) ∧ u.cell? ⟨g, m * 6 + 5, none⟩ = some (.slice t.va t.e.val.length t.vc)
theorem end_any (b o : Nat) (l : List Plc) (pa : Option Addr) (pc : Nat) (w : World) (hc : w.cell? ⟨b, o, none⟩ = some (.slice pa l.length pc)) (hl : l.length ≤ 1000000) (B : Nat) (hrow : PRow w B (.slice pa l.length pc) l) (hend : ∀ p, p ∈ l → p.pos + p.size ≤ 1000000000) :
    Calls Tryz.prog 57 #[.pointer (some ⟨b, o, none⟩)] w fun e w' => e = .returned (.int .i64 (endP l : Nat)) ∧ Below w.heap.size w w' := by
  have HR := hide hrow
  have HE := hide hend
  clear hrow hend
  rcases Nat.eq_zero_or_pos l.length with h0 | h0
  · have hl0 : l = [] := by simpa using h0
    subst hl0
    go_enter Tryz.func57, Tryz.ntmps57
    go_wp2_with fail
    go_ret
    exact ⟨rfl, Below.refl _ _⟩
  · obtain ⟨p, hp⟩ : ∃ p, l[l.length - 1]? = some p := ⟨_, List.getElem?_eq_getElem (by omega)⟩
    have hlast : endP l = p.pos + p.size := by unfold endP; rw [List.getLast?_eq_getElem?, hp]
    obtain ⟨g, c, hv, hcell⟩ := HR.out.at_ hp
    obtain ⟨rfl, rfl⟩ : pa = some ⟨g, 0, none⟩ ∧ pc = c := by cases hv; exact ⟨rfl, rfl⟩
    have hpe := HE.out p (List.mem_of_getElem? hp)
    obtain ⟨pos, size, t⟩ := p
    have c0 : w.cell? ⟨g, (l.length - 1) * 6, none⟩ = some (.int .i64 (pos : Nat)) := hcell 0 _ rfl
    have c1 : w.cell? ⟨g, (l.length - 1) * 6 + 1, none⟩ = some (.int .i64 (size : Nat)) := hcell 1 _ rfl
    have c2 : w.cell? ⟨g, (l.length - 1) * 6 + 2, none⟩ = some (.slice t.ka t.e.key.length t.kc) := hcell 2 _ rfl
    have c3 : w.cell? ⟨g, (l.length - 1) * 6 + 3, none⟩ = some (.int .u64 (t.e.seq : Nat)) := hcell 3 _ rfl
    have c4 : w.cell? ⟨g, (l.length - 1) * 6 + 4, none⟩ = some (.int .i64 t.e.kind) := hcell 4 _ rfl
    have c5 : w.cell? ⟨g, (l.length - 1) * 6 + 5, none⟩ = some (.slice t.va t.e.val.length t.vc) := hcell 5 _ rfl
    have HL := hide hlast
    have PE := hide (fun (u : World) => placeEnd_any ⟨pos, size, t⟩ hpe u)
    clear hlast hp hcell hv HR HE hpe
    rw [HL.out]
    generalize hn : l.length = n at *
    obtain ⟨m, rfl⟩ : ∃ m, n = m + 1 := ⟨n - 1, by omega⟩
    rw [show m + 1 - 1 = m by omega] at c0 c1 c2 c3 c4 c5
    have i0 : ¬ ((m : Int) + 1 = 0) := by omega
    clear hn HL
    go_enter Tryz.func57, Tryz.ntmps57
    go_upto_region 3 with (fail)
    have SK := hide (fun u (tq : Turns (fun _ => False) w u) => show End57 u b o g m pc pos size t from ⟨tq.cell hc (fun x => x), tq.cell c0 (fun x => x), tq.cell c1 (fun x => x), tq.cell c2 (fun x => x), tq.cell c3 (fun x => x), tq.cell c4 (fun x => x), tq.cell c5 (fun x => x)⟩)
    have tV : Turns (fun _ => False) w w.drew := (Turns.refl _ _).drew
    clear hc c0 c1 c2 c3 c4 c5
    refine wp_region_held_drew (S := fun u => End57 u b o g m pc pos size t) (by kernel_rfl) (SK.out _ tV) (fun _ => ?_)
    change wpAnyH _ _ _ _ _ 14 (Array.replicate 14 false) _ _
    refine wpAnyH_take (i := 0) (oi := { dst := some 9, op := Op.move (Operand.tmp 0), type := 116, pos := "index.go:36", after := #[], guard := none }) (v := .pointer (some ⟨b, o, none⟩)) rfl (by kernel_rfl) (by kernel_rfl) (by kernel_rfl) (fun _ _ _ h => h) (Or.inl ⟨by rfl, ?_⟩) (SK.out _ tV) ?_
    · rintro w ⟨d0, c0, c1, c2, c3, c4, c5⟩
      go_simp
    simp only [Act.put, List.setIfInBounds_toArray, List.set_cons_zero, List.set_cons_succ]
    refine wpAnyH_take (i := 1) (oi := { dst := some 10, op := Op.nilCheck (Operand.tmp 9), type := 0, pos := "index.go:36", after := #[{ on := 0, ground := Ground.data }], guard := none }) (v := .pointer (some ⟨b, o, none⟩)) rfl (by kernel_rfl) (by kernel_rfl) (by kernel_rfl) (fun _ _ _ h => h) (Or.inl ⟨by rfl, ?_⟩) (SK.out _ tV) ?_
    · rintro w ⟨d0, c0, c1, c2, c3, c4, c5⟩
      go_simp
    simp only [Act.put, List.setIfInBounds_toArray, List.set_cons_zero, List.set_cons_succ]
    refine wpAnyH_take (i := 2) (oi := { dst := some 11, op := Op.fieldAddr 55 (Operand.tmp 10) 0, type := 0, pos := "index.go:36", after := #[{ on := 1, ground := Ground.data }], guard := none }) (v := .pointer (some ⟨b, o, none⟩)) rfl (by kernel_rfl) (by kernel_rfl) (by kernel_rfl) (fun _ _ _ h => h) (Or.inl ⟨by rfl, ?_⟩) (SK.out _ tV) ?_
    · rintro w ⟨d0, c0, c1, c2, c3, c4, c5⟩
      go_simp
    simp only [Act.put, List.setIfInBounds_toArray, List.set_cons_zero, List.set_cons_succ]
    refine wpAnyH_take (i := 3) (oi := { dst := some 12, op := Op.load 53 (Operand.tmp 11), type := 53, pos := "index.go:36", after := #[{ on := 2, ground := Ground.data }], guard := none }) (v := .slice (some ⟨g, 0, none⟩) (m + 1) pc) rfl (by kernel_rfl) (by kernel_rfl) (by kernel_rfl) (fun _ _ _ h => h) (Or.inl ⟨by rfl, ?_⟩) (SK.out _ tV) ?_
    · rintro w ⟨d0, c0, c1, c2, c3, c4, c5⟩
      go_simp
    simp only [Act.put, List.setIfInBounds_toArray, List.set_cons_zero, List.set_cons_succ]
    refine wpAnyH_take (i := 4) (oi := { dst := some 13, op := Op.move (Operand.tmp 0), type := 116, pos := "index.go:36", after := #[], guard := none }) (v := .pointer (some ⟨b, o, none⟩)) rfl (by kernel_rfl) (by kernel_rfl) (by kernel_rfl) (fun _ _ _ h => h) (Or.inl ⟨by rfl, ?_⟩) (SK.out _ tV) ?_
    · rintro w ⟨d0, c0, c1, c2, c3, c4, c5⟩
      go_simp
    simp only [Act.put, List.setIfInBounds_toArray, List.set_cons_zero, List.set_cons_succ]
    refine wpAnyH_take (i := 5) (oi := { dst := some 14, op := Op.nilCheck (Operand.tmp 13), type := 0, pos := "index.go:36", after := #[{ on := 4, ground := Ground.data }], guard := none }) (v := .pointer (some ⟨b, o, none⟩)) rfl (by kernel_rfl) (by kernel_rfl) (by kernel_rfl) (fun _ _ _ h => h) (Or.inl ⟨by rfl, ?_⟩) (SK.out _ tV) ?_
    · rintro w ⟨d0, c0, c1, c2, c3, c4, c5⟩
      go_simp
    simp only [Act.put, List.setIfInBounds_toArray, List.set_cons_zero, List.set_cons_succ]
    refine wpAnyH_take (i := 6) (oi := { dst := some 15, op := Op.fieldAddr 55 (Operand.tmp 14) 0, type := 0, pos := "index.go:36", after := #[{ on := 5, ground := Ground.data }], guard := none }) (v := .pointer (some ⟨b, o, none⟩)) rfl (by kernel_rfl) (by kernel_rfl) (by kernel_rfl) (fun _ _ _ h => h) (Or.inl ⟨by rfl, ?_⟩) (SK.out _ tV) ?_
    · rintro w ⟨d0, c0, c1, c2, c3, c4, c5⟩
      go_simp
    simp only [Act.put, List.setIfInBounds_toArray, List.set_cons_zero, List.set_cons_succ]
    refine wpAnyH_take (i := 7) (oi := { dst := some 16, op := Op.load 53 (Operand.tmp 15), type := 53, pos := "index.go:36", after := #[{ on := 6, ground := Ground.data }], guard := none }) (v := .slice (some ⟨g, 0, none⟩) (m + 1) pc) rfl (by kernel_rfl) (by kernel_rfl) (by kernel_rfl) (fun _ _ _ h => h) (Or.inl ⟨by rfl, ?_⟩) (SK.out _ tV) ?_
    · rintro w ⟨d0, c0, c1, c2, c3, c4, c5⟩
      go_simp
    simp only [Act.put, List.setIfInBounds_toArray, List.set_cons_zero, List.set_cons_succ]
    refine wpAnyH_take (i := 8) (oi := { dst := some 17, op := Op.call { callee := Callee.builtin Builtin.len, args := #[Operand.tmp 16], argTypes := #[53] }, type := 3, pos := "index.go:36", after := #[{ on := 7, ground := Ground.data }], guard := none }) (v := .int .i64 ((m : Int) + 1)) rfl (by kernel_rfl) (by kernel_rfl) (by kernel_rfl) (fun _ _ _ h => h) (Or.inl ⟨by rfl, ?_⟩) (SK.out _ tV) ?_
    · rintro w ⟨d0, c0, c1, c2, c3, c4, c5⟩
      go_simp
    simp only [Act.put, List.setIfInBounds_toArray, List.set_cons_zero, List.set_cons_succ]
    refine wpAnyH_take (i := 9) (oi := { dst := some 18, op := Op.binOp BinOp.sub 3 (Operand.tmp 17) (Operand.const (Value.int IntKind.i64 1)) 3, type := 3, pos := "index.go:36", after := #[{ on := 8, ground := Ground.data }], guard := none }) (v := .int .i64 (m : Nat)) rfl (by kernel_rfl) (by kernel_rfl) (by kernel_rfl) (fun _ _ _ h => h) (Or.inl ⟨by rfl, ?_⟩) (SK.out _ tV) ?_
    · rintro w ⟨d0, c0, c1, c2, c3, c4, c5⟩
      go_simp
      simp [IntKind.wrap, IntKind.bits, IntKind.signed]
      omega
    simp only [Act.put, List.setIfInBounds_toArray, List.set_cons_zero, List.set_cons_succ]
    refine wpAnyH_take (i := 10) (oi := { dst := some 19, op := Op.indexAddr 53 (Operand.tmp 12) (Operand.tmp 18), type := 0, pos := "index.go:36", after := #[{ on := 3, ground := Ground.data }, { on := 9, ground := Ground.data }], guard := none }) (v := .pointer (some ⟨g, m * 6, none⟩)) rfl (by kernel_rfl) (by kernel_rfl) (by kernel_rfl) (fun _ _ _ h => h) (Or.inl ⟨by rfl, ?_⟩) (SK.out _ tV) ?_
    · rintro w ⟨d0, c0, c1, c2, c3, c4, c5⟩
      go_simp
      intro hlt
      omega
    simp only [Act.put, List.setIfInBounds_toArray, List.set_cons_zero, List.set_cons_succ]
    refine wpAnyH_take (i := 11) (oi := { dst := some 20, op := Op.load 147 (Operand.tmp 19), type := 147, pos := "index.go:36", after := #[{ on := 10, ground := Ground.data }], guard := none }) (v := .agg #[.int .i64 (pos : Nat), .int .i64 (size : Nat), .slice t.ka t.e.key.length t.kc, .int .u64 (t.e.seq : Nat), .int .i64 t.e.kind, .slice t.va t.e.val.length t.vc]) rfl (by kernel_rfl) (by kernel_rfl) (by kernel_rfl) (fun _ _ _ h => h) (Or.inl ⟨by rfl, ?_⟩) (SK.out _ tV) ?_
    · rintro w ⟨d0, c0, c1, c2, c3, c4, c5⟩
      go_simp
    simp only [Act.put, List.setIfInBounds_toArray, List.set_cons_zero, List.set_cons_succ]
    refine wpAnyH_ready (rs := [12]) (by kernel_rfl) (by simp) ?_
    refine AllReadyH.cons rfl (fun K hK => ?_) AllReadyH.nil
    go_simp
    refine (PE.out _).mono ?_
    rintro oo Vn ⟨rfl, b2⟩
    have tN := Turns.of_below b2 (fun _ => False)
    have tV := tV.trans tN
    clear b2
    clear tN
    go_simp
    refine hK.out _ _ (SK.out _ tV) (fun _ => ?_)
    clear hK K
    refine wpAnyH_take (i := 13) (oi := { dst := some 2, op := Op.assign (Operand.tmp 21), type := 3, pos := "index.go:36", after := #[{ on := 12, ground := Ground.data }, { on := 12, ground := Ground.chain }, { on := 0, ground := Ground.phase }, { on := 1, ground := Ground.phase }, { on := 2, ground := Ground.phase }, { on := 3, ground := Ground.phase }, { on := 4, ground := Ground.phase }, { on := 5, ground := Ground.phase }, { on := 6, ground := Ground.phase }, { on := 7, ground := Ground.phase }, { on := 8, ground := Ground.phase }, { on := 9, ground := Ground.phase }, { on := 10, ground := Ground.phase }, { on := 11, ground := Ground.phase }, { on := 12, ground := Ground.phase }], guard := none }) (v := .int .i64 ((pos + size : Nat) : Int)) rfl (by kernel_rfl) (by kernel_rfl) (by kernel_rfl) (fun _ _ _ h => h) (Or.inl ⟨by rfl, ?_⟩) (SK.out _ tV) ?_
    · rintro w ⟨d0, c0, c1, c2, c3, c4, c5⟩
      go_simp
    simp only [Act.put, List.setIfInBounds_toArray, List.set_cons_zero, List.set_cons_succ]
    refine wpAnyH_done (by kernel_rfl) ?_ _
    have TV := hide tV
    clear tV SK PE
    go_wp2_with fail
    go_ret
    exact ⟨rfl, TV.out.below (Nat.le_refl _) (fun _ x => x.elim)⟩
end Go.Proofs.YtjklbhdhjfifhaaGreat

/-
  A block's place is noted.
-/
namespace Go.Proofs.YtjklbhdhjfifhaaGreat
open Go.RowKit
set_option maxRecDepth 100000
set_option maxHeartbeats 4000000
def Note1 (u : World) (b o : Nat) (pa : Option Addr) (n pc g1 : Nat) (ka : Option Addr) (kc : Nat) (va : Option Addr) (vc : Nat) (e : Ent) : Prop :=
  u.cell? ⟨b, o, none⟩ = some (.slice pa n pc) ∧ u.cell? ⟨g1, 0, none⟩ = some (.slice ka e.key.length kc) ∧ u.cell? ⟨g1, 1, none⟩ = some (.int .u64 (e.seq : Nat)) ∧ u.cell? ⟨g1, 2, none⟩ = some (.int .i64 e.kind) ∧ u.cell? ⟨g1, 3, none⟩ = some (.slice va e.val.length vc)
theorem note_any (b o T : Nat) (cs : Array Value) (l : List Plc) (pa : Option Addr) (pc n B : Nat) (ka va : Option Addr) (kc vc : Nat) (e : Ent) (w : World) (hbx : w.heap[b]? = some (.cells cs T (0, 0))) (hc : cs[o]? = some (.slice pa l.length pc)) (hl : l.length ≤ 1000000) (hrow : PRow w B (.slice pa l.length pc) l) (hB : B ≤ w.heap.size) (hnb : ¬ inRow (.slice pa l.length pc) b) (hend : ∀ p, p ∈ l → p.pos + p.size ≤ 1000000000) :
    Calls Tryz.prog 110 #[.pointer (some ⟨b, o, none⟩), .int .i64 (n : Nat), .agg #[.slice ka e.key.length kc, .int .u64 (e.seq : Nat), .int .i64 e.kind, .slice va e.val.length vc]] w fun oo w' => (∃ v, oo = .returned v) ∧ ∃ v', w'.heap[b]? = some (.cells (cs.setIfInBounds o v') T (0, 0)) ∧ PRow w' B v' (l ++ [⟨endP l, n, ⟨ka, kc, va, vc, e⟩⟩]) ∧ (∀ k, inRow v' k → inRow (.slice pa l.length pc) k ∨ w.heap.size ≤ k) ∧ Turns (fun k => k = b ∨ inRow (.slice pa l.length pc) k) w w' := by
  have hcell : w.cell? ⟨b, o, none⟩ = some (.slice pa l.length pc) := by rw [cell_of_row w b o _ T (0, 0) hbx]; exact hc
  have b0 : Below w.heap.size w (w.alloc (.cells #[.slice ka e.key.length kc, .int .u64 (e.seq : Nat), .int .i64 e.kind, .slice va e.val.length vc] 35)) := (Below.refl _ _).alloc (Nat.le_refl _) _
  have t0 := Turns.of_below b0 (fun _ => False)
  have HROW := hide (hrow.keep t0 (fun _ _ x => x))
  have HBX := hide (t0.heap hbx (fun x => x))
  have HG1 := hide (heap_alloc_new w (.cells #[.slice ka e.key.length kc, .int .u64 (e.seq : Nat), .int .i64 e.kind, .slice va e.val.length vc] 35))
  have HNB := hide hnb
  have HN1 := hide (show ¬ inRow (.slice pa l.length pc) w.heap.size from fun h => by have := (hrow.row h).2; omega)
  have HT0 := hide t0
  have EN := hide (fun (u : World) (tq : Turns (fun _ => False) (w.alloc (.cells #[.slice ka e.key.length kc, .int .u64 (e.seq : Nat), .int .i64 e.kind, .slice va e.val.length vc] 35)) u) => end_any b o l pa pc u (tq.cell (t0.cell hcell (fun x => x)) (fun x => x)) hl B (((hrow.keep t0 (fun _ _ x => x))).keep tq (fun _ _ x => x)) hend)
  have SU := hide (fun (u : World) (tq : Turns (inRow (.slice pa l.length pc)) (w.alloc (.cells #[.slice ka e.key.length kc, .int .u64 (e.seq : Nat), .int .i64 e.kind, .slice va e.val.length vc] 35)) u) => show Note1 u b o pa l.length pc w.heap.size ka kc va vc e from
    ⟨tq.cell (t0.cell hcell (fun x => x)) HNB.out, cell_of_row u _ 0 _ 35 (0, 0) (tq.heap HG1.out HN1.out), cell_of_row u _ 1 _ 35 (0, 0) (tq.heap HG1.out HN1.out), cell_of_row u _ 2 _ 35 (0, 0) (tq.heap HG1.out HN1.out), cell_of_row u _ 3 _ 35 (0, 0) (tq.heap HG1.out HN1.out)⟩)
  have hB0 := b0.size
  clear hbx hc hrow hnb hend hcell b0 t0
  go_enter Tryz.func110, Tryz.ntmps110
  go_upto_region 1 with (fail)
  generalize hG1 : w.heap.size = g1 at HG1 HN1 SU hB hB0 ⊢
  generalize w.alloc (.cells #[.slice ka e.key.length kc, .int .u64 (e.seq : Nat), .int .i64 e.kind, .slice va e.val.length vc] 35) = w0 at *
  have SK := hide (fun (u : World) (tq : Turns (fun _ => False) w0 u) => SU.out u (tq.mono (fun _ _ x => x.elim)))
  have tV : Turns (fun _ => False) w0 w0.drew := (Turns.refl _ _).drew
  generalize hE0 : endP l = E0 at EN ⊢
  have HE0 := hide hE0
  have HG := hide hG1
  clear hE0 hG1 HG1
  refine wp_region_x_drew [12, 13, 14] (S := fun u => Note1 u b o pa l.length pc g1 ka kc va vc e) (by kernel_rfl) (SK.out _ tV) (fun _ => ?_)
  change wpAnyX _ _ _ _ _ _ 15 (Array.replicate 15 false) _ _
  refine wpAnyX_take (i := 0) (oi := { dst := some 6, op := Op.move (Operand.tmp 0), type := 116, pos := "index.go:41", after := #[], guard := none }) (v := .pointer (some ⟨b, o, none⟩)) rfl (by kernel_rfl) (by kernel_rfl) (by kernel_rfl) (by kernel_rfl) (by kernel_rfl) (fun _ _ _ h => h) (Or.inl ⟨by rfl, ?_⟩) (SK.out _ tV) ?_
  · rintro w ⟨d0, e0, e1, e2, e3⟩
    go_simp
  simp only [Act.put, List.setIfInBounds_toArray, List.set_cons_zero, List.set_cons_succ]
  refine wpAnyX_take (i := 1) (oi := { dst := some 7, op := Op.move (Operand.tmp 0), type := 116, pos := "index.go:41", after := #[], guard := none }) (v := .pointer (some ⟨b, o, none⟩)) rfl (by kernel_rfl) (by kernel_rfl) (by kernel_rfl) (by kernel_rfl) (by kernel_rfl) (fun _ _ _ h => h) (Or.inl ⟨by rfl, ?_⟩) (SK.out _ tV) ?_
  · rintro w ⟨d0, e0, e1, e2, e3⟩
    go_simp
  simp only [Act.put, List.setIfInBounds_toArray, List.set_cons_zero, List.set_cons_succ]
  refine wpAnyX_take (i := 2) (oi := { dst := some 8, op := Op.nilCheck (Operand.tmp 7), type := 0, pos := "index.go:41", after := #[{ on := 1, ground := Ground.data }], guard := none }) (v := .pointer (some ⟨b, o, none⟩)) rfl (by kernel_rfl) (by kernel_rfl) (by kernel_rfl) (by kernel_rfl) (by kernel_rfl) (fun _ _ _ h => h) (Or.inl ⟨by rfl, ?_⟩) (SK.out _ tV) ?_
  · rintro w ⟨d0, e0, e1, e2, e3⟩
    go_simp
  simp only [Act.put, List.setIfInBounds_toArray, List.set_cons_zero, List.set_cons_succ]
  refine wpAnyX_take (i := 3) (oi := { dst := some 9, op := Op.fieldAddr 55 (Operand.tmp 8) 0, type := 0, pos := "index.go:41", after := #[{ on := 2, ground := Ground.data }], guard := none }) (v := .pointer (some ⟨b, o, none⟩)) rfl (by kernel_rfl) (by kernel_rfl) (by kernel_rfl) (by kernel_rfl) (by kernel_rfl) (fun _ _ _ h => h) (Or.inl ⟨by rfl, ?_⟩) (SK.out _ tV) ?_
  · rintro w ⟨d0, e0, e1, e2, e3⟩
    go_simp
  simp only [Act.put, List.setIfInBounds_toArray, List.set_cons_zero, List.set_cons_succ]
  refine wpAnyX_take (i := 4) (oi := { dst := some 10, op := Op.load 53 (Operand.tmp 9), type := 53, pos := "index.go:41", after := #[{ on := 3, ground := Ground.data }], guard := none }) (v := .slice pa l.length pc) rfl (by kernel_rfl) (by kernel_rfl) (by kernel_rfl) (by kernel_rfl) (by kernel_rfl) (fun _ _ _ h => h) (Or.inl ⟨by rfl, ?_⟩) (SK.out _ tV) ?_
  · rintro w ⟨d0, e0, e1, e2, e3⟩
    go_simp
  simp only [Act.put, List.setIfInBounds_toArray, List.set_cons_zero, List.set_cons_succ]
  refine wpAnyX_take (i := 5) (oi := { dst := some 11, op := Op.move (Operand.tmp 0), type := 116, pos := "index.go:41", after := #[], guard := none }) (v := .pointer (some ⟨b, o, none⟩)) rfl (by kernel_rfl) (by kernel_rfl) (by kernel_rfl) (by kernel_rfl) (by kernel_rfl) (fun _ _ _ h => h) (Or.inl ⟨by rfl, ?_⟩) (SK.out _ tV) ?_
  · rintro w ⟨d0, e0, e1, e2, e3⟩
    go_simp
  simp only [Act.put, List.setIfInBounds_toArray, List.set_cons_zero, List.set_cons_succ]
  refine wpAnyX_take (i := 7) (oi := { dst := some 13, op := Op.move (Operand.tmp 1), type := 3, pos := "index.go:41", after := #[], guard := none }) (v := .int .i64 (n : Nat)) rfl (by kernel_rfl) (by kernel_rfl) (by kernel_rfl) (by kernel_rfl) (by kernel_rfl) (fun _ _ _ h => h) (Or.inl ⟨by rfl, ?_⟩) (SK.out _ tV) ?_
  · rintro w ⟨d0, e0, e1, e2, e3⟩
    go_simp
  simp only [Act.put, List.setIfInBounds_toArray, List.set_cons_zero, List.set_cons_succ]
  refine wpAnyX_take (i := 8) (oi := { dst := some 14, op := Op.load 35 (Operand.tmp 5), type := 35, pos := "index.go:41", after := #[], guard := none }) (v := .agg #[.slice ka e.key.length kc, .int .u64 (e.seq : Nat), .int .i64 e.kind, .slice va e.val.length vc]) rfl (by kernel_rfl) (by kernel_rfl) (by kernel_rfl) (by kernel_rfl) (by kernel_rfl) (fun _ _ _ h => h) (Or.inl ⟨by rfl, ?_⟩) (SK.out _ tV) ?_
  · rintro w ⟨d0, e0, e1, e2, e3⟩
    go_simp
  simp only [Act.put, List.setIfInBounds_toArray, List.set_cons_zero, List.set_cons_succ]
  refine wpAnyX_ready (rs := [6]) (by kernel_rfl) (by simp) ?_
  refine AllReadyX.cons rfl (fun K hK => ?_) AllReadyX.nil
  go_simp
  refine (EN.out _ tV).mono ?_
  rintro oo Vn ⟨rfl, b2⟩
  have tN := Turns.of_below b2 (fun _ => False)
  have tV := tV.trans tN
  clear b2 EN
  clear tN
  go_simp
  refine hK.out _ _ (SK.out _ tV) (fun _ => ?_)
  clear hK K
  refine wpAnyX_take (i := 9) (oi := { dst := some 15, op := Op.build 147 #[(0, Operand.tmp 12), (1, Operand.tmp 13), (2, Operand.tmp 14)], type := 147, pos := "index.go:41", after := #[{ on := 6, ground := Ground.data }, { on := 7, ground := Ground.data }, { on := 8, ground := Ground.data }], guard := none }) (v := .agg #[.int .i64 (E0 : Nat), .int .i64 (n : Nat), .slice ka e.key.length kc, .int .u64 (e.seq : Nat), .int .i64 e.kind, .slice va e.val.length vc]) rfl (by kernel_rfl) (by kernel_rfl) (by kernel_rfl) (by kernel_rfl) (by kernel_rfl) (fun _ _ _ h => h) (Or.inl ⟨by rfl, ?_⟩) (SK.out _ tV) ?_
  · rintro w ⟨d0, e0, e1, e2, e3⟩
    go_simp
  simp only [Act.put, List.setIfInBounds_toArray, List.set_cons_zero, List.set_cons_succ]
  refine wpAnyX_ready (rs := [10]) (by kernel_rfl) (by simp) ?_
  refine AllReadyX.cons rfl (fun K hK => ?_) AllReadyX.nil
  go_simp
  have tA := (Turns.refl (fun _ => False) Vn).alloc (.cells #[.int .i64 (E0 : Nat), .int .i64 (n : Nat), .slice ka e.key.length kc, .int .u64 (e.seq : Nat), .int .i64 e.kind, .slice va e.val.length vc] 147)
  have hb8 := heap_alloc_new Vn (.cells #[.int .i64 (E0 : Nat), .int .i64 (n : Nat), .slice ka e.key.length kc, .int .u64 (e.seq : Nat), .int .i64 e.kind, .slice va e.val.length vc] 147)
  have tV := tV.trans tA
  refine hK.out _ _ (SK.out _ tV) (fun _ => ?_)
  clear hK K tA
  generalize Vn.alloc (.cells #[.int .i64 (E0 : Nat), .int .i64 (n : Nat), .slice ka e.key.length kc, .int .u64 (e.seq : Nat), .int .i64 e.kind, .slice va e.val.length vc] 147) = w8 at *
  have hlb : l.length ≤ 1000000000 := by omega
  have hB8 : B ≤ w8.heap.size := by have := tV.size; omega
  obtain ⟨g2, n2, c2, w9, hr9, hrow9, t9, bl9, hin9⟩ := append_plc w8 B (.slice pa l.length pc) l (HROW.out.keep tV (fun _ _ x => x)) hB8 hlb ⟨E0, n, ⟨ka, kc, va, vc, e⟩⟩ Vn.heap.size 1 hb8
  have HQ := hide hr9
  have HR9 := hide hrow9
  have T9 := hide t9
  have HI9 := hide hin9
  have HL8 := hide tV.size
  clear hr9 hrow9 t9 bl9 hin9 hb8
  refine wpAnyX_ready (rs := [11]) (by kernel_rfl) (by simp) ?_
  refine AllReadyX.cons rfl (fun K hK => ?_) AllReadyX.nil
  refine step_append_run rfl (.tmp 10) (.tmp 16) 53 rfl _ _ rfl rfl _ _ (HQ.out _) 17 rfl ?_
  simp only [Act.put, List.setIfInBounds_toArray, List.set_cons_zero, List.set_cons_succ]
  have tU : Turns (inRow (.slice pa l.length pc)) w0 w9 := (tV.mono (fun _ _ x => x.elim)).trans T9.out
  refine hK.out _ _ (SU.out _ tU) (fun _ => ?_)
  clear hK K HQ T9 tV
  refine wpAnyX_late (i := 12) (oi := { dst := some 18, op := Op.nilCheck (Operand.tmp 6), type := 0, pos := "index.go:41", after := #[{ on := 0, ground := Ground.data }, { on := 0, ground := Ground.phase }, { on := 1, ground := Ground.phase }, { on := 2, ground := Ground.phase }, { on := 3, ground := Ground.phase }, { on := 4, ground := Ground.phase }, { on := 5, ground := Ground.phase }, { on := 6, ground := Ground.phase }, { on := 7, ground := Ground.phase }, { on := 8, ground := Ground.phase }, { on := 9, ground := Ground.phase }, { on := 10, ground := Ground.phase }, { on := 11, ground := Ground.phase }], guard := none }) (v := .pointer (some ⟨b, o, none⟩)) rfl (by kernel_rfl) (by kernel_rfl) (by kernel_rfl) (by kernel_rfl) (fun _ _ _ h => h) (Or.inl ⟨by rfl, ?_⟩) ?_
  · rintro w -
    go_simp
  simp only [Act.put, List.setIfInBounds_toArray, List.set_cons_zero, List.set_cons_succ]
  refine wpAnyX_late (i := 13) (oi := { dst := some 19, op := Op.fieldAddr 55 (Operand.tmp 18) 0, type := 0, pos := "index.go:41", after := #[{ on := 12, ground := Ground.data }, { on := 0, ground := Ground.phase }, { on := 1, ground := Ground.phase }, { on := 2, ground := Ground.phase }, { on := 3, ground := Ground.phase }, { on := 4, ground := Ground.phase }, { on := 5, ground := Ground.phase }, { on := 6, ground := Ground.phase }, { on := 7, ground := Ground.phase }, { on := 8, ground := Ground.phase }, { on := 9, ground := Ground.phase }, { on := 10, ground := Ground.phase }, { on := 11, ground := Ground.phase }], guard := none }) (v := .pointer (some ⟨b, o, none⟩)) rfl (by kernel_rfl) (by kernel_rfl) (by kernel_rfl) (by kernel_rfl) (fun _ _ _ h => h) (Or.inl ⟨by rfl, ?_⟩) ?_
  · rintro w -
    go_simp
  simp only [Act.put, List.setIfInBounds_toArray, List.set_cons_zero, List.set_cons_succ]
  obtain ⟨hbx9, hfz⟩ : w9.heap[b]? = some (.cells cs T (0, 0)) ∧ True := ⟨tU.heap HBX.out HNB.out, trivial⟩
  have q0 : w9.cell? ⟨b, o, none⟩ = some (.slice pa l.length pc) := (SU.out _ tU).1
  have f0 := frozen_of_row w9 b o _ T hbx9
  have TK := hide ((Tick.refl hbx9).set o (.slice (some ⟨g2, 0, none⟩) n2 c2))
  clear hbx9 hfz
  refine wpAnyX_ready (rs := [14]) (by kernel_rfl) (by simp) ?_
  refine AllReadyX.free rfl (by kernel_rfl) (fun K hK => ?_) AllReadyX.nil
  go_simp
  refine hK.out _ _ ?_
  clear hK K q0 f0
  generalize w9.setCell ⟨b, o, none⟩ (.slice (some ⟨g2, 0, none⟩) n2 c2) = w10 at *
  refine wpAnyX_done (by kernel_rfl) ?_ _
  have TU := hide tU
  clear tU
  go_wp2_with fail
  go_end0
  refine ⟨⟨_, rfl⟩, _, TK.out.1, ?_, fun k hk => ?_, ?_⟩
  · rw [HE0.out]
    refine HR9.out.keep (Turns.of_tick TK.out) (fun k hk hkb => ?_)
    obtain ⟨q1, q2, q3⟩ := hk
    have hgb : g2 = b := by cases q3; exact hkb
    rcases HI9.out with h | h
    · exact HNB.out (by rw [← hgb]; exact h)
    · have h1 := lt_of_heap HBX.out
      have h2 := HL8.out
      omega
  · obtain ⟨q1, q2, q3⟩ := hk
    have hgk : g2 = k := by cases q3; rfl
    rcases HI9.out with h | h
    · exact .inl (by rw [← hgk]; exact h)
    · have h2 := HL8.out
      have h3 := HG.out
      exact .inr (by omega)
  · exact (HT0.out.mono (fun _ _ x => x.elim)).trans ((TU.out.mono (fun _ _ x => .inr x)).trans ((Turns.of_tick TK.out).mono (fun _ _ x => .inl x)))
end Go.Proofs.YtjklbhdhjfifhaaGreat

/-
  sort.Search of a function that only reads.
-/
namespace Go.Proofs.YtjklbhdhjfifhaaGreat
open Go.RowKit
set_option maxRecDepth 100000
set_option maxHeartbeats 4000000
/-- Where a property begins to hold. -/
def Found (p : Nat → Bool) (n k : Nat) : Prop := k ≤ n ∧ (∀ i, i < k → p i = false) ∧ (∀ i, k ≤ i → i < n → p i = true)
theorem search_any (F : Nat) (c0 c1 : Value) (hent : ∀ h w, (callFunc F #[.int .i64 h, c0, c1]).run Tryz.prog w = .ok (.enter F #[.int .i64 h, c0, c1]) w) (p : Nat → Bool) (n : Nat) (hn : n ≤ 1000000) (w : World)
    (hf : ∀ h : Nat, h < n → ∀ u, Turns (fun _ => False) w u → Calls Tryz.prog F #[.int .i64 (h : Nat), c0, c1] u fun e u' => e = .returned (.bool (p h)) ∧ Below u.heap.size u u')
    (hm : ∀ i j, i ≤ j → j < n → p i = true → p j = true) :
    Calls Tryz.prog 85 #[.int .i64 (n : Nat), .func (.func F) #[] #[c0, c1]] w fun e w' => ∃ k : Nat, e = .returned (.int .i64 (k : Nat)) ∧ Found p n k ∧ Below w.heap.size w w' := by
  have HF := hide hf
  have HM := hide hm
  clear hf hm
  go_enter Tryz.func85, Tryz.ntmps85
  go_wp2_with fail
  go_loopw [5, 6] (fun iv jv wr => ∃ i j : Nat, iv = .int .i64 (i : Nat) ∧ jv = .int .i64 (j : Nat) ∧ i ≤ j ∧ j ≤ n ∧ (∀ k, k < i → p k = false) ∧ (∀ k, j ≤ k → k < n → p k = true) ∧ Below w.heap.size w wr) (fun iv jv _ => (intOf jv).toNat - (intOf iv).toNat)
  case atStart => exact ⟨0, n, rfl, rfl, Nat.zero_le _, Nat.le_refl _, fun k hk => by omega, fun k h1 h2 => by omega, Below.refl _ _⟩
  case round =>
    obtain ⟨i, j, rfl, rfl, hij, hjn, h1, h2, hbw⟩ := hrel
    have H1 := hide h1
    have H2 := hide h2
    have BW := hide hbw
    have hsz := hbw.size
    clear h1 h2 hbw
    by_cases hlt : i < j
    · have i1 : (i : Int) < (j : Int) := by omega
      have hmid : ((i : Int) + (j : Int)) / 2 = (((i + j) / 2 : Nat) : Int) := by omega
      have HMID := hide hmid
      clear hmid
      go_upto_region 4 with (fail)
      rw [HMID.out]
      have hm1 : i ≤ (i + j) / 2 := by omega
      have hm2 : (i + j) / 2 < j := by omega
      have CF := hide (HF.out ((i + j) / 2) (by omega) wr (Turns.of_below BW.out (fun _ => False)))
      clear HMID
      generalize (i + j) / 2 = m at *
      generalize hpm : p m = pm at CF
      have HPM := hide hpm
      clear hpm
      cases pm with
      | false =>
        go_wp2_with fail
        refine CF.out.mono ?_
        rintro e w2 ⟨rfl, b2⟩
        have B2 := hide (BW.out.trans (b2.mono hsz))
        clear b2 CF
        go_wp2_with fail
        go_roundw
        case rel => exact ⟨m + 1, j, by go_num, rfl, by omega, hjn, fun k hk => by
          cases hk2 : p k with
          | false => rfl
          | true => rw [HM.out k m (by omega) (by omega) hk2] at HPM; exact absurd HPM.out (by simp), H2.out, B2.out⟩
        case measure => simp [intOf]; omega
      | true =>
        go_wp2_with fail
        refine CF.out.mono ?_
        rintro e w2 ⟨rfl, b2⟩
        have B2 := hide (BW.out.trans (b2.mono hsz))
        clear b2 CF
        go_wp2_with fail
        go_roundw
        case rel => exact ⟨i, m, rfl, rfl, hm1, by omega, H1.out, fun k h1 h2 => HM.out m k h1 h2 HPM.out, B2.out⟩
        case measure => simp [intOf]; omega
    · have i1 : ¬ (i : Int) < (j : Int) := by omega
      obtain rfl : i = j := by omega
      go_wp2_with fail
      go_ret
      exact ⟨i, rfl, ⟨hjn, H1.out, H2.out⟩, BW.out⟩
end Go.Proofs.YtjklbhdhjfifhaaGreat
