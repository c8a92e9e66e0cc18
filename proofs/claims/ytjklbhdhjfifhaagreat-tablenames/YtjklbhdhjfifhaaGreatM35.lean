import Derived.Test.YtjklbhdhjfifhaaGreatM34
import Derived.Test.YtjklbhdhjfifhaaGreatM07
import Derived.Test.YtjklbhdhjfifhaaGreatM32
import Derived.Test.YtjklbhdhjfifhaaGreatM33
import Derived.Test.YtjklbhdhjfifhaaGreatM25
/-
  The blocks of a row of entries: what blocksOf yields.
-/
namespace Go.Proofs.YtjklbhdhjfifhaaGreat
open Go.RowKit Go.Shelf
set_option maxRecDepth 100000
set_option maxHeartbeats 4000000
attribute [local go_sem] Oper.semAt_some
/-- Where the blocks of a row stand: (first, how many). -/
def Cuts (F : Int) (l : List Tow) : Nat → List (Nat × Nat) → Nat → Prop
  | i, [], j => i = j
  | i, x :: r, j => x.1 = i ∧ FirstN (l.drop i) F x.2 ∧ Cuts F l (i + x.2) r j
theorem Cuts.snoc {F : Int} {l : List Tow} {j m : Nat} (hm : FirstN (l.drop j) F m) : ∀ {L : List (Nat × Nat)} {i : Nat}, Cuts F l i L j → Cuts F l i (L ++ [(j, m)]) (j + m)
  | [], i, h => by
    cases (show i = j from h)
    exact ⟨rfl, hm, rfl⟩
  | x :: r, i, h => ⟨h.1, h.2.1, h.2.2.snoc hm⟩
abbrev Cu (l : List Tow) := { x : Nat × Nat // 1 ≤ x.2 ∧ x.1 + x.2 ≤ l.length }
def cutsOf {l : List Tow} (p : List (Cu l)) : List (Nat × Nat) := p.map (·.val)
def cutV {l : List Tow} (b off c : Nat) (x : Cu l) : Value := .slice (some ⟨b, off + x.val.1 * 4, none⟩) x.val.2 (c - x.val.1)
def lenAt (p : Nat) (w : World) : Nat := match w.cell? ⟨p, 0, none⟩ with
  | some (.slice _ n _) => n
  | _ => 0
theorem lenAt_of {p : Nat} {w : World} {a : Option Addr} {n c : Nat} (h : w.cell? ⟨p, 0, none⟩ = some (.slice a n c)) : lenAt p w = n := by simp [lenAt, h]
theorem wt_drop : ∀ (l : List Tow) (j : Nat), wt (ents (l.drop j)) ≤ wt (ents l)
  | [], j => by simp
  | x :: r, 0 => Nat.le_refl _
  | x :: r, j + 1 => by
    have := wt_drop r j
    simp only [List.drop_succ_cons]
    simp only [wt, ents, List.map_cons, List.sum_cons] at *
    omega
def noT : TypeId → Prop := fun _ => False
theorem blocks1_in (n lp x0 x1 b off c : Nat) (hn : 1 ≤ n) (l : List Tow) (F : Int) (hlc : l.length ≤ c) (hmx : l.length ≤ 1000) (hw : wt (ents l) ≤ 400000) (hf : Good l) (S : Nat → Prop) (hS0 : ¬ S x0) (hS1 : ¬ S x1) (h01 : x0 ≠ x1) (J Jx : List (Cu l) → World → Prop) (W : World)
    (hE : ∀ u, Turns (fun k => S k ∨ k = x0) W u → Ents u (some ⟨b, off, none⟩) l)
    (hJ : StaysX noT x0 W.heap.size J)
    (hY : ∀ pre x W1, J pre W1 → (∃ j, j ≤ l.length ∧ Cuts F l 0 (cutsOf (pre ++ [x])) j) → YieldAt Fence.wide (n - 1) Tryz.prog lp #[cutV b off c x] W1 fun e W' => (e = .returned (.bool true) ∧ J (pre ++ [x]) W' ∧ Turns S W1 W' ∧ KeepsFrom W.heap.size W1 W') ∨ (e = .returned (.bool false) ∧ Jx (pre ++ [x]) W' ∧ KeepsFrom W.heap.size W1 W'))
    (hb0 : W.heap[x0]? = some (.cells #[.slice (some ⟨b, off, none⟩) l.length c] 37 (0, 0))) (hb1 : W.heap[x1]? = some (.cells #[.int .i64 F] 3 (0, 0))) (h0 : J [] W) :
    CallsIn Fence.wide n Tryz.prog 147 #[.func (.yield lp) #[] #[], .pointer (some ⟨x0, 0, none⟩), .pointer (some ⟨x1, 0, none⟩)] W fun e W' => (∃ v, e = .returned v) ∧ ((∃ xs : List (Cu l), Cuts F l 0 (cutsOf xs) l.length ∧ J xs W') ∨ (∃ pre : List (Cu l), (∃ j, j ≤ l.length ∧ Cuts F l 0 (cutsOf pre) j) ∧ Jx pre W')) := by
  have HY := hide hY
  have HJ := hide hJ
  have HE := hide hE
  have ST := hide (show ∃ (pre : List (Cu l)) (j : Nat) (a : Option Addr), J pre W ∧ Cuts F l 0 (cutsOf pre) j ∧ pre.length ≤ j ∧ j ≤ l.length ∧ (j < l.length → a = some ⟨b, off + j * 4, none⟩) ∧ W.heap[x0]? = some (.cells #[.slice a (l.length - j) (c - j)] 37 (0, 0)) ∧ W.heap[x1]? = some (.cells #[.int .i64 F] 3 (0, 0)) ∧ Turns (fun k => S k ∨ k = x0) W W from
    ⟨[], 0, some ⟨b, off, none⟩, h0, rfl, Nat.le_refl _, Nat.zero_le _, fun _ => by simp, by simpa using hb0, hb1, Turns.refl _ _⟩)
  clear hY hJ hE h0 hb0 hb1
  refine callsIn_of_wp Tryz.func147 rfl trivial ?_ rfl
  simp only [Tryz.ntmps147, List.size_toArray, List.length_cons, List.length_nil, Nat.reduceAdd, Nat.reduceSub, Array.replicate_succ, Array.replicate_zero, List.push_toArray, List.append_toArray, List.nil_append, List.cons_append]
  generalize hW0 : W.heap.size = W0 at *
  gi_wp2
  gi_loopw [] (fun wr => ∃ (pre : List (Cu l)) (j : Nat) (a : Option Addr), J pre wr ∧ Cuts F l 0 (cutsOf pre) j ∧ pre.length ≤ j ∧ j ≤ l.length ∧ (j < l.length → a = some ⟨b, off + j * 4, none⟩) ∧ wr.heap[x0]? = some (.cells #[.slice a (l.length - j) (c - j)] 37 (0, 0)) ∧ wr.heap[x1]? = some (.cells #[.int .i64 F] 3 (0, 0)) ∧ Turns (fun k => S k ∨ k = x0) W wr) (fun wr => lenAt x0 wr)
  case atStart => exact ST.out
  case round =>
    obtain ⟨pre, j, a, hJ1, hC1, hp1, hj1, ha1, hx0, hx1, ht1⟩ := hrel
    have hcell : wr.cell? ⟨x0, 0, none⟩ = some (.slice a (l.length - j) (c - j)) := cell_of_row wr x0 0 _ 37 (0, 0) hx0
    have hcell1 : wr.cell? ⟨x1, 0, none⟩ = some (.int .i64 F) := cell_of_row wr x1 0 _ 3 (0, 0) hx1
    have J1 := hide hJ1
    have C1 := hide hC1
    have T1 := hide ht1
    have X0 := hide hx0
    have X1 := hide hx1
    have MW := hide (lenAt_of hcell)
    clear hJ1 hC1 ht1 hx0 hx1
    by_cases hjl : j < l.length
    · obtain rfl := ha1 hjl
      have hE1 := (HE.out wr T1.out).part j (l.length - j)
      rw [List.take_of_length_le (by rw [List.length_drop]; omega)] at hE1
      have FB := hide (firstBlock_any (some ⟨b, off + j * 4, none⟩) (l.length - j) (c - j) (l.drop j) F wr hE1 (by rw [List.length_drop]) (by omega) (by omega) (by omega) (Nat.le_trans (wt_drop l j) hw) (hf.sub fun x hx => List.mem_of_mem_drop hx))
      have hpos : (0 : Int) < ((l.length - j : Nat) : Int) := by omega
      clear hE1 ha1
      generalize hd : l.length - j = d at *
      gi_wp2
      refine ⟨trivial, ?_⟩
      refine (callsIn_wide.2 FB.out).mono ?_
      rintro e w3 ⟨m, rfl, hFN, hb3⟩
      have t3 := Turns.of_below hb3 (fun _ => False)
      have hm1 := hFN.1
      have hm2 : m ≤ d := by have := hFN.2.1; rw [List.length_drop] at this; omega
      have hJ3 := HJ.out _ _ _ J1.out (t3.mono fun _ _ x => x.elim)
      obtain ⟨fn, tmps, assign, body, hy, hRd⟩ := HY.out pre ⟨(j, m), hm1, by simp only; omega⟩ w3 hJ3 ⟨j + m, by omega, by have := C1.out.snoc hFN; simpa [cutsOf] using this⟩
      have RD := hide hRd
      have FN := hide hFN
      have hc3 := t3.cell hcell (fun x => x)
      have hc4 := t3.cell hcell1 (fun x => x)
      have X30 := hide (t3.heap X0.out (fun x => x))
      have X31 := hide (t3.heap X1.out (fun x => x))
      have T3 := hide (T1.out.trans (t3.mono fun _ _ x => x.elim))
      unfold cutV at hy
      simp only at hy
      clear hb3 hRd hJ3 t3 hFN FB
      gi_wp2
      refine RD.out.mono ?_
      rintro e W4 (⟨rfl, hJ4, hk4, _⟩ | ⟨rfl, hJx4, _⟩)
      · have J4 := hide hJ4
        have hd0 := hk4.cell hc3 hS0
        have X40 := hide (hk4.heap X30.out hS0)
        have X41 := hide (hk4.heap X31.out hS1)
        have T4 := hide (T3.out.trans (hk4.mono fun _ _ x => .inl x))
        have FZ := frozen_of_row W4 x0 0 _ 37 X40.out
        have NXT := hide (fun (a' : Option Addr) (n' c' : Nat) (e1 : n' = l.length - (j + m)) (e2 : c' = c - (j + m)) (e3 : j + m < l.length → a' = some ⟨b, off + (j + m) * 4, none⟩) => show (∃ (pre : List (Cu l)) (j : Nat) (a : Option Addr), J pre (W4.setCell ⟨x0, 0, none⟩ (.slice a' n' c')) ∧ Cuts F l 0 (cutsOf pre) j ∧ pre.length ≤ j ∧ j ≤ l.length ∧ (j < l.length → a = some ⟨b, off + j * 4, none⟩) ∧ (W4.setCell ⟨x0, 0, none⟩ (.slice a' n' c')).heap[x0]? = some (.cells #[.slice a (l.length - j) (c - j)] 37 (0, 0)) ∧ (W4.setCell ⟨x0, 0, none⟩ (.slice a' n' c')).heap[x1]? = some (.cells #[.int .i64 F] 3 (0, 0)) ∧ Turns (fun k => S k ∨ k = x0) W (W4.setCell ⟨x0, 0, none⟩ (.slice a' n' c'))) ∧ lenAt x0 (W4.setCell ⟨x0, 0, none⟩ (.slice a' n' c')) < lenAt x0 wr from by
          have tk := (Tick.refl X40.out).set 0 (.slice a' n' c')
          have tt := Turns.of_tick tk
          have h1 := tk.1
          subst e1 e2
          refine ⟨⟨pre ++ [⟨(j, m), hm1, by simp only; omega⟩], j + m, a', HJ.out _ _ _ J4.out (tt.mono fun k _ e => .inr e), by
            have := C1.out.snoc FN.out
            simpa [cutsOf] using this, by rw [List.length_append, List.length_singleton]; omega, by omega, e3, h1, tt.heap X41.out (fun e => h01 e.symm), T4.out.trans (tt.mono fun k _ e => .inr e)⟩, ?_⟩
          rw [lenAt_of (cell_of_row _ x0 0 _ 37 (0, 0) h1), MW.out]
          omega)
        clear hk4 hJ4 hy hc3 hc4
        gi_wp2
        exact NXT.out _ _ _ (by omega) (by omega) (fun h => by rw [if_neg (by omega), Nat.add_mul, Nat.add_assoc])
      · gi_wp2
        refine bodyPost_ret (results_none rfl _ _ _) rfl ?_
        exact ⟨⟨_, rfl⟩, .inr ⟨pre ++ [⟨(j, m), hm1, by simp only; omega⟩], ⟨j + m, by omega, by
          have := C1.out.snoc FN.out
          simpa [cutsOf] using this⟩, hJx4⟩⟩
    · obtain rfl : j = l.length := by omega
      have hz : ((l.length - l.length : Nat) : Int) = 0 := by omega
      gi_wp2
      go_end0
      exact ⟨⟨_, rfl⟩, .inl ⟨pre, C1.out, J1.out⟩⟩
end Go.Proofs.YtjklbhdhjfifhaaGreat

/-
  blocksOf: its contract; parts in a row of one's own; a block of a good row.
-/
namespace Go.Proofs.YtjklbhdhjfifhaaGreat
open Go.RowKit Go.Shelf
set_option maxRecDepth 100000
set_option maxHeartbeats 4000000
theorem enters147 (caps : Array Value) (w : World) : (callFunc 147 caps).run Tryz.prog w = .ok (.enter 147 caps) w := by kernel_rfl
theorem blocks_any (a : Option Addr) (n c : Nat) (F : Int) (w : World) : Calls Tryz.prog 108 #[.slice a n c, .int .i64 F] w fun e w' => e = .returned (.func (.func 147) #[] #[.pointer (some ⟨w.heap.size, 0, none⟩), .pointer (some ⟨w.heap.size + 1, 0, none⟩)]) ∧ w' = (w.alloc (.cells #[.slice a n c] 37)).alloc (.cells #[.int .i64 F] 3) := by
  go_enter Tryz.func108, Tryz.ntmps108
  go_wp2_with fail
  go_ret
  exact ⟨by simp, rfl⟩
theorem blocks_seq (n x0 x1 b off c : Nat) (hn : 1 ≤ n) (l : List Tow) (F : Int) (hlc : l.length ≤ c) (hmx : l.length ≤ 1000) (hw : wt (ents l) ≤ 400000) (hf : Good l) (S : Nat → Prop) (hS0 : ¬ S x0) (hS1 : ¬ S x1) (h01 : x0 ≠ x1) (w : World)
    (hE : ∀ u, Turns (fun k => S k ∨ k = x0) w u → Ents u (some ⟨b, off, none⟩) l)
    (hb0 : w.heap[x0]? = some (.cells #[.slice (some ⟨b, off, none⟩) l.length c] 37 (0, 0))) (hb1 : w.heap[x1]? = some (.cells #[.int .i64 F] 3 (0, 0))) :
    SeqX noT x0 Fence.wide n Tryz.prog 147 #[.pointer (some ⟨x0, 0, none⟩), .pointer (some ⟨x1, 0, none⟩)] (fun x : Cu l => #[cutV b off c x]) (Turns S) (fun xs => Cuts F l 0 (cutsOf xs) l.length) (fun pre => ∃ j, j ≤ l.length ∧ Cuts F l 0 (cutsOf pre) j) (fun pre x => ∃ j, j ≤ l.length ∧ Cuts F l 0 (cutsOf (pre ++ [x])) j) w := fun lp J Jx W hW hJ _ hY h0 => by
  have t := Turns.of_below hW (fun _ => False)
  exact blocks1_in n lp x0 x1 b off c hn l F hlc hmx hw hf S hS0 hS1 h01 J Jx W (fun u hu => hE u ((t.mono fun _ _ x => x.elim).trans hu)) (hJ.stays (Nat.le_refl _)) hY (t.heap hb0 (fun x => x)) (t.heap hb1 (fun x => x)) h0
/-- Parts in a row of one's own. -/
def Pt.cells (x : Pt) : List Value := [x.v, .int .i64 0]
def ptCells (l : List Pt) : List Value := l.flatMap Pt.cells
theorem ptCells_length (l : List Pt) : (ptCells l).length = l.length * 2 := by
  induction l with
  | nil => rfl
  | cons x r ih => simp only [ptCells, List.flatMap_cons, List.length_append, List.length_cons] at ih ⊢; have : (Pt.cells x).length = 2 := rfl; omega
theorem ptCells_at : ∀ (l : List Pt) (k : Nat) (x : Pt), l[k]? = some x → ∀ j u, x.cells[j]? = some u → (ptCells l)[k * 2 + j]? = some u
  | [], k, x, h, _, _, _ => by simp at h
  | y :: r, 0, x, h, j, u, hj => by
    obtain rfl : y = x := by simpa using h
    have hlt := (List.getElem?_eq_some_iff.1 hj).1
    show (Pt.cells y ++ ptCells r)[0 * 2 + j]? = _
    rw [List.getElem?_append_left (by omega), Nat.zero_mul, Nat.zero_add]
    exact hj
  | y :: r, k + 1, x, h, j, u, hj => by
    show (Pt.cells y ++ ptCells r)[(k + 1) * 2 + j]? = _
    have e : (Pt.cells y).length = 2 := rfl
    rw [List.getElem?_append_right (by omega), e, show (k + 1) * 2 + j - 2 = k * 2 + j by omega]
    exact ptCells_at r k x (by simpa using h) j u hj
def TRow (w : World) (B : Nat) (v : Value) (R : List Pt) : Prop :=
  (R = [] ∧ v = .slice none 0 0) ∨ ∃ g c n : Nat, v = .slice (some ⟨g, 0, none⟩) n c ∧ n = R.length ∧ n ≤ c ∧ B ≤ g ∧ RowC w g 119 (c * 2) (ptCells R)
theorem TRow.len {w : World} {B : Nat} {v : Value} {R : List Pt} (h : TRow w B v R) : ∃ a c, v = .slice a R.length c := by
  rcases h with ⟨rfl, rfl⟩ | ⟨g, c, n, rfl, rfl, _⟩
  · exact ⟨none, 0, rfl⟩
  · exact ⟨_, _, rfl⟩
theorem TRow.keep {S : Nat → Prop} {w w' : World} {B : Nat} {v : Value} {R : List Pt} (h : TRow w B v R) (t : Turns S w w') (hn : ∀ k, inRow v k → ¬ S k) : TRow w' B v R := by
  rcases h with h | ⟨g, c, n, h1, h2, h3, h4, cs, h5, h6, h7⟩
  · exact .inl h
  · exact .inr ⟨g, c, n, h1, h2, h3, h4, cs, t.heap h5 (hn g ⟨n, c, h1⟩), h6, h7⟩
theorem TRow.row {w : World} {B : Nat} {v : Value} {R : List Pt} (h : TRow w B v R) {k : Nat} (hk : inRow v k) : B ≤ k ∧ k < w.heap.size ∧ ∃ cs, w.heap[k]? = some (.cells cs 119 (0, 0)) := by
  obtain ⟨n', c', e⟩ := hk
  rcases h with ⟨_, rfl⟩ | ⟨g, c, n, rfl, _, _, hB, cs, h1, _⟩
  · cases e
  · cases e; exact ⟨hB, lt_of_heap h1, _, h1⟩
theorem TRow.pts {w : World} {B : Nat} {a : Option Addr} {n c : Nat} {R : List Pt} (h : TRow w B (.slice a n c) R) (hb : ∀ x ∈ R, Bytes w x.v x.bs ∧ 0 < x.bs.length) : Pts w a R := fun k x hx => by
  refine ⟨?_, hb x (List.mem_of_getElem? hx)⟩
  rcases h with ⟨rfl, _⟩ | ⟨g, c, n, e, _, _, _, cs, h1, h2, h3⟩
  · simp at hx
  · cases e
    have hk := (List.getElem?_eq_some_iff.1 hx).1
    have hl := ptCells_length R
    have : ∀ j u, x.cells[j]? = some u → w.cell? ⟨g, 0 + k * 2 + j, none⟩ = some u := fun j u hu => by
      have hj : j < 2 := (List.getElem?_eq_some_iff.1 hu).1
      rw [Nat.zero_add, cell_of_row w g _ cs 119 (0, 0) h1, h3 _ (by omega), ptCells_at R k x hx j u hu]
    exact ⟨g, 0, rfl, this 0 _ rfl, this 1 _ rfl⟩
theorem t119_size : Tryz.t119.size = 2 := by kernel_rfl
theorem t119_bytes : Tryz.t119.bytes = 32 := by kernel_rfl
theorem t119_info : Tryz.prog.info? 119 = some Tryz.t119 := by kernel_rfl
theorem t119_zero : Tryz.t119.zero = some (.agg #[.slice none 0 0, .int .i64 0]) := by kernel_rfl
theorem append_pt (w : World) (B : Nat) (v : Value) (R : List Pt) (h : TRow w B v R) (hB : B ≤ w.heap.size) (hlen : R.length ≤ 1000000000) (x : Pt) (g c : Nat) (hg : w.heap[g]? = some (.cells #[x.v, .int .i64 0] 119 (0, 0))) :
    ∃ (g' n' c' : Nat) (w' : World), (∀ ty, (Builtin.append_ #[159, 159] ty #[v, .slice (some ⟨g, 0, none⟩) 1 c]).run Tryz.prog w = .ok (.slice (some ⟨g', 0, none⟩) n' c') w') ∧ n' = (R ++ [x]).length ∧ TRow w' B (.slice (some ⟨g', 0, none⟩) n' c') (R ++ [x]) ∧ Turns (inRow v) w w' ∧ Below B w w' ∧ (inRow v g' ∨ g' = w.heap.size) := by
  have hsrc : Src Tryz.prog Tryz.t119.size 159 (.slice (some ⟨g, 0, none⟩) 1 c) 1 x.cells w := Src.ofSlice w Tryz.underlying159 ⟨g, 0, none⟩ 1 c _ (by rw [t119_size]; rfl) (fun j u hu => by
    rw [Go.WideShapes.add_plain, Nat.zero_add, cell_of_row w g j _ 119 (0, 0) hg]
    simpa [Pt.cells] using hu) (fun u hu => by
    simp only [Pt.cells, List.mem_cons, List.not_mem_nil, or_false] at hu
    rcases hu with rfl | rfl <;> rfl)
  obtain ⟨base, sLen, sCap, rfl, hsl, hbase⟩ : ∃ (base : Option Addr) (sLen sCap : Nat), v = .slice base sLen sCap ∧ sLen = R.length ∧ ((base = none ∧ sLen = 0 ∧ sCap = 0 ∧ 0 < 1) ∨ ∃ g, base = some ⟨g, 0, none⟩ ∧ B ≤ g ∧ sLen ≤ sCap ∧ RowC w g 119 (sCap * Tryz.t119.size) (ptCells R)) := by
    rcases h with ⟨rfl, rfl⟩ | ⟨g, c, n, rfl, rfl, h3, h4, h5⟩
    · exact ⟨none, 0, 0, rfl, rfl, .inl ⟨rfl, rfl, rfl, by omega⟩⟩
    · exact ⟨_, _, _, rfl, rfl, .inr ⟨g, rfl, h4, h3, by rw [t119_size]; exact h5⟩⟩
  obtain ⟨g', cp, w', hr, hg', hrow, hb, hcp, hin, hnew, hkeep⟩ := append_gen2 (P := Tryz.prog) w B 159 119 Tryz.t119 _ Tryz.underlying159 t119_info t119_zero rfl base sLen sCap (ptCells R) (by rw [t119_size, hsl, ptCells_length]) _ 1 _ hsrc hB hbase (by rw [t119_bytes]; omega) (by omega)
  refine ⟨g', _, cp, w', hr, by simp [hsl], .inr ⟨g', cp, _, rfl, by simp [hsl], hcp, hg', ?_⟩, ⟨hb.os, hb.tape, hb.output, hb.size, fun k hk hn => hkeep k hk fun e => hn ⟨sLen, sCap, by rw [e]⟩⟩, hb, ?_⟩
  · rw [t119_size] at hrow
    rw [show ptCells (R ++ [x]) = ptCells R ++ x.cells by simp [ptCells]]
    exact hrow
  · rcases Nat.lt_or_ge sCap (sLen + 1) with h1 | h1
    · exact .inr (hnew h1)
    · exact .inl ⟨sLen, sCap, by rw [(hin h1).1]⟩
-- a block of a good row
theorem inOrd_tail {x : Ent} {r : List Ent} (h : inOrd (x :: r) = true) : inOrd r = true := by
  cases r with
  | nil => rfl
  | cons y r => simp only [inOrd, Bool.and_eq_true] at h; exact h.2
theorem inOrd_drop : ∀ (l : List Ent) (j : Nat), inOrd l = true → inOrd (l.drop j) = true
  | _, 0, h => h
  | [], _ + 1, h => h
  | _ :: r, j + 1, h => inOrd_drop r j (inOrd_tail h)
theorem inOrd_take : ∀ (l : List Ent) (j : Nat), inOrd l = true → inOrd (l.take j) = true
  | _, 0, _ => by simp [inOrd]
  | [], _ + 1, h => h
  | [x], j + 1, _ => by cases j <;> simp [inOrd]
  | x :: y :: r, 1, _ => rfl
  | x :: y :: r, j + 2, h => by
    have h2 := inOrd_take (y :: r) (j + 1) (inOrd_tail h)
    simp only [inOrd, Bool.and_eq_true] at h
    simp only [List.take_succ_cons, inOrd, Bool.and_eq_true] at h2 ⊢
    exact ⟨h.1, h2⟩
def part (l : List Tow) (x : Nat × Nat) : List Tow := (l.drop x.1).take x.2
def frB (l : List Tow) (x : Nat × Nat) : List (BitVec 8) := Fr.frameB 2#8 (blkB (ents (part l x)))
theorem part_length {l : List Tow} {x : Nat × Nat} (h : x.1 + x.2 ≤ l.length) : (part l x).length = x.2 := by
  unfold part
  rw [List.length_take, List.length_drop]
  omega
theorem part_chk {l : List Tow} (h : inOrd (ents l) = true) {x : Nat × Nat} (h1 : 1 ≤ x.2) (h2 : x.1 + x.2 ≤ l.length) : chkL (ents (part l x)) = 0 := by
  unfold chkL
  rw [if_neg]
  rintro (e | e)
  · have := congrArg List.length e
    simp only [ents, List.length_map, part_length h2, List.length_nil] at this
    omega
  · have : inOrd (ents (part l x)) = true := by
      unfold part ents
      rw [List.map_take, List.map_drop]
      exact inOrd_take _ _ (inOrd_drop _ _ h)
    rw [this] at e
    cases e
theorem part_good {l : List Tow} (h : Good l) (x : Nat × Nat) : Good (part l x) := h.sub fun _ hy => List.mem_of_mem_drop (List.mem_of_mem_take hy)
theorem wt_app (a b : List Tow) : wt (ents (a ++ b)) = wt (ents a) + wt (ents b) := by simp [wt, ents]
theorem wt_part (l : List Tow) (j m : Nat) : wt (ents (l.take j)) + wt (ents (part l (j, m))) = wt (ents (l.take (j + m))) := by
  rw [← wt_app]
  unfold part
  rw [← List.take_add]
theorem wt_take_le (l : List Tow) (j : Nat) : wt (ents (l.take j)) ≤ wt (ents l) := by
  have := wt_app (l.take j) (l.drop j)
  rw [List.take_append_drop] at this
  omega
theorem frB_le {l : List Tow} (hf : Good l) {j m : Nat} (h1 : 1 ≤ m) (h2 : j + m ≤ l.length) : (blkB (ents (part l (j, m)))).length ≤ 4 + 44 * m + wt (ents (part l (j, m))) ∧ (frB l (j, m)).length ≤ 60 * m + wt (ents (part l (j, m))) ∧ (frB l (j, m)).length = (blkB (ents (part l (j, m)))).length + 12 := by
  have h := szK_le (part l (j, m)) (part_good hf _) (part l (j, m)).length
  rw [← blk_full, part_length (x := (j, m)) h2] at h
  unfold frB
  rw [Fr.frameB_length]
  simp only at h
  exact ⟨h, by omega, rfl⟩
-- where the blocks of a row lie in a table
def sumF (l : List Tow) (L : List (Nat × Nat)) : Nat := (L.map fun x => (frB l x).length).sum
def plcs (l : List Tow) : Nat → List (Nat × Nat) → List Plc
  | _, [] => []
  | p, x :: r => ⟨p, (frB l x).length, l.getD (x.1 + x.2 - 1) default⟩ :: plcs l (p + (frB l x).length) r
theorem sumF_snoc (l : List Tow) (L : List (Nat × Nat)) (x : Nat × Nat) : sumF l (L ++ [x]) = sumF l L + (frB l x).length := by simp [sumF]
theorem plcs_snoc (l : List Tow) (x : Nat × Nat) : ∀ (L : List (Nat × Nat)) (p : Nat), plcs l p (L ++ [x]) = plcs l p L ++ [⟨p + sumF l L, (frB l x).length, l.getD (x.1 + x.2 - 1) default⟩]
  | [], p => by simp [plcs, sumF]
  | y :: r, p => by
    simp only [List.cons_append, plcs, plcs_snoc l x r, sumF, List.map_cons, List.sum_cons]
    rw [Nat.add_assoc]
theorem plcs_length (l : List Tow) : ∀ (L : List (Nat × Nat)) (p : Nat), (plcs l p L).length = L.length
  | [], _ => rfl
  | _ :: r, p => by simp only [plcs, List.length_cons, plcs_length l r]
theorem plcs_end (l : List Tow) (L : List (Nat × Nat)) : endP (plcs l 0 L) = sumF l L := by
  rcases List.eq_nil_or_concat L with rfl | ⟨L', x, rfl⟩
  · rfl
  · rw [List.concat_eq_append, plcs_snoc, sumF_snoc]
    simp [endP]
theorem plcs_le (l : List Tow) : ∀ (L : List (Nat × Nat)) (p : Nat), ∀ q ∈ plcs l p L, q.pos + q.size ≤ p + sumF l L
  | [], _, q, h => by simp [plcs] at h
  | y :: r, p, q, h => by
    simp only [plcs, List.mem_cons] at h
    simp only [sumF, List.map_cons, List.sum_cons]
    rcases h with rfl | h
    · simp only; omega
    · have := plcs_le l r _ q h
      simp only [sumF] at this
      omega
theorem cuts_sum {F : Int} {l : List Tow} (hf : Good l) : ∀ {L : List (Nat × Nat)} {i j : Nat}, Cuts F l i L j → j ≤ l.length → i ≤ j ∧ L.length ≤ j - i ∧ wt (ents (l.take i)) + 60 * i + sumF l L ≤ wt (ents (l.take j)) + 60 * j
  | [], i, j, h, _ => by
    cases (show i = j from h)
    simp [sumF]
  | (a, m) :: r, i, j, h, hj => by
    obtain ⟨h1, h2, h3⟩ := h
    simp only at h1 h2 h3
    subst h1
    have hm := h2.1
    obtain ⟨k1, k2, k3⟩ := cuts_sum hf h3 hj
    have := frB_le hf hm (show a + m ≤ l.length by omega)
    have hw := wt_part l a m
    simp only [sumF, List.map_cons, List.sum_cons, List.length_cons] at k3 ⊢
    refine ⟨by omega, by omega, by omega⟩
theorem cuts_bound {F : Int} {l : List Tow} (hf : Good l) {L : List (Nat × Nat)} {j : Nat} (h : Cuts F l 0 L j) (hj : j ≤ l.length) (hmx : l.length ≤ 1000) (hw : wt (ents l) ≤ 100000) : sumF l L ≤ 160000 ∧ L.length ≤ 1000 := by
  obtain ⟨_, h1, h2⟩ := cuts_sum hf h hj
  have := wt_take_le l j
  have e : wt (ents (l.take 0)) = 0 := by simp [wt, ents]
  omega
theorem keepsFrom_turns {S : Nat → Prop} {B : Nat} {W W' : World} (t : Turns S W W') (h : ∀ k, S k → k < B ∨ W.heap.size ≤ k ∨ ∃ cs ty fr, W.heap[k]? = some (.cells cs ty fr)) : KeepsFrom B W W' := ⟨t.size, fun k o hB hk ho => t.heap hk fun hs => by
  rcases h k hs with h1 | h1 | ⟨cs, ty, fr, h1⟩
  · omega
  · have := lt_of_heap hk
    omega
  · rw [hk] at h1
    cases h1
    cases ho⟩
theorem part_last {l : List Tow} {j m : Nat} (h1 : 1 ≤ m) (h2 : j + m ≤ l.length) : (part l (j, m))[m - 1]? = some (l.getD (j + m - 1) default) := by
  unfold part
  simp only
  rw [List.getElem?_take_of_lt (by omega), List.getElem?_drop, show j + (m - 1) = j + m - 1 by omega, List.getElem?_eq_getElem (by omega)]
  simp [List.getD, List.getElem?_eq_getElem (show j + m - 1 < l.length by omega)]
end Go.Proofs.YtjklbhdhjfifhaaGreat

/-
  lay: what holds behind each round.
-/
namespace Go.Proofs.YtjklbhdhjfifhaaGreat
open Go.RowKit Go.Shelf
set_option maxRecDepth 100000
set_option maxHeartbeats 4000000
theorem loose_cells {T : TypeId → Prop} {x B : Nat} {A A' : World} (tt : Turns (Loose T x B A) A A') {k t : Nat} {cs : Array Value} {fr : Nat × Nat} (hk : A.heap[k]? = some (.cells cs t fr)) (ht : ¬ T t) (hx : k ≠ x) : A'.heap[k]? = some (.cells cs t fr) :=
  tt.heap hk fun h => by
    rcases h with ⟨_, o, ho, h2⟩ | h
    · rw [hk] at ho
      cases ho
      rcases h2 with h2 | ⟨cs', t', fr', h2, h3⟩
      · cases h2
      · cases h3; exact ht h2
    · exact hx h
theorem RowC.loose {T : TypeId → Prop} {x B : Nat} {A A' : World} (tt : Turns (Loose T x B A) A A') {g t c : Nat} {vs : List Value} (h : RowC A g t c vs) (ht : ¬ T t) (hx : g ≠ x) : RowC A' g t c vs := by
  obtain ⟨cs, h1, h2, h3⟩ := h
  exact ⟨cs, loose_cells tt h1 ht hx, h2, h3⟩
theorem Fresh.loose {x B N : Nat} {A A' : World} (tt : Turns (Loose noT x B A) A A') {v : Value} {bs : List (BitVec 8)} (h : Fresh N A v bs) (hx : x < N) : Fresh N A' v bs := by
  rcases h with h | ⟨g, n, c, h1, h2, h3, h4, cs, h5, h6⟩
  · exact .inl h
  · exact .inr ⟨g, n, c, h1, h2, h3, h4, cs, loose_cells tt h5 (fun h => h) (by omega), h6⟩
theorem TRow.loose {x B N : Nat} {A A' : World} (tt : Turns (Loose noT x B A) A A') {v : Value} {R : List Pt} (h : TRow A N v R) (hx : x < N) : TRow A' N v R := by
  rcases h with h | ⟨g, c, n, h1, h2, h3, h4, h5⟩
  · exact .inl h
  · exact .inr ⟨g, c, n, h1, h2, h3, h4, h5.loose tt (fun h => h) (by omega)⟩
theorem PRow.loose {x B N : Nat} {A A' : World} (tt : Turns (Loose noT x B A) A A') {v : Value} {R : List Plc} (h : PRow A N v R) (hx : x < N) : PRow A' N v R := by
  rcases h with h | ⟨g, c, n, h1, h2, h3, h4, h5⟩
  · exact .inl h
  · exact .inr ⟨g, c, n, h1, h2, h3, h4, h5.loose tt (fun h => h) (by omega)⟩
theorem PRow.typed {w : World} {B : Nat} {v : Value} {R : List Plc} (h : PRow w B v R) {k : Nat} (hk : inRow v k) : ∃ cs, w.heap[k]? = some (.cells cs 147 (0, 0)) := by
  obtain ⟨n', c', e⟩ := hk
  rcases h with ⟨_, rfl⟩ | ⟨g, c, n, rfl, _, _, hB, cs, h1, _⟩
  · cases e
  · cases e; exact ⟨_, h1⟩
theorem Fresh.keep5 {N : Nat} {S : Nat → Prop} {w w' : World} {v : Value} {bs : List (BitVec 8)} (h : Fresh N w v bs) (t : Turns S w w') (hS : ∀ k, S k → k < N ∨ ∃ cs ty fr, w.heap[k]? = some (.cells cs ty fr) ∧ ty ≠ 5) : Fresh N w' v bs := by
  rcases h with h | ⟨g, n, c, h1, h2, h3, h4, cs, h5, h6⟩
  · exact .inl h
  · refine .inr ⟨g, n, c, h1, h2, h3, h4, cs, t.heap h5 fun hs => ?_, h6⟩
    rcases hS g hs with h7 | ⟨cs', ty, fr, h7, h8⟩
    · omega
    · rw [h5] at h7
      cases h7
      exact h8 rfl
/-- What lay has laid. -/
structure LayI (l : List Tow) (b3 b6 b7 bx NL N0 : Nat) (e0 e1 e2 l1 l2 s1 s2 : Value) (W0 : World) (L : List (Nat × Nat)) (fv pv : Value) (pts : List Pt) (W : World) : Prop where
  c7 : W.heap[b7]? = some (.cells #[fv] 159 (0, 0))
  tr : TRow W NL fv pts
  fr : ∀ x ∈ pts, Fresh NL W x.v x.bs ∧ 0 < x.bs.length
  bs : pts.map (·.bs) = L.map (frB l)
  cx : W.heap[bx]? = some (.cells #[pv, e0, e1, e2, l1, l2, s1, s2] 55 (0, 0))
  pr : PRow W NL pv (plcs l 0 L)
  c3 : W.heap[b3]? = some (.cells #[.pointer (some ⟨bx, 0, none⟩)] 116 (0, 0))
  c6 : W.heap[b6]? = some (.cells #[.slice none 0 0, .int .i64 0] 119 (0, 0))
  low : Turns (fun k => k = bx ∨ N0 ≤ k) W0 W
def LayIE (l : List Tow) (b3 b6 b7 bx NL N0 : Nat) (e0 e1 e2 l1 l2 s1 s2 : Value) (W0 : World) (pre : List (Cu l)) (W : World) : Prop := ∃ fv pv pts, LayI l b3 b6 b7 bx NL N0 e0 e1 e2 l1 l2 s1 s2 W0 (cutsOf pre) fv pv pts W
theorem LayI.own {l : List Tow} {b3 b6 b7 bx NL N0 : Nat} {e0 e1 e2 l1 l2 s1 s2 : Value} {W0 : World} {L : List (Nat × Nat)} {fv pv : Value} {pts : List Pt} {A A' : World} {x B : Nat} (h : LayI l b3 b6 b7 bx NL N0 e0 e1 e2 l1 l2 s1 s2 W0 L fv pv pts A) (tt : Turns (Loose noT x B A) A A') (hx : x < NL) (hN : N0 ≤ x) (hNB : N0 ≤ B) (h7 : b7 ≠ x) (h3 : b3 ≠ x) (h6 : b6 ≠ x) (hbx : bx ≠ x) :
    LayI l b3 b6 b7 bx NL N0 e0 e1 e2 l1 l2 s1 s2 W0 L fv pv pts A' :=
  ⟨loose_cells tt h.c7 (fun h => h) h7, h.tr.loose tt hx, fun y hy => ⟨(h.fr y hy).1.loose tt hx, (h.fr y hy).2⟩, h.bs, loose_cells tt h.cx (fun h => h) hbx, h.pr.loose tt hx, loose_cells tt h.c3 (fun h => h) h3, loose_cells tt h.c6 (fun h => h) h6,
    h.low.trans (tt.mono fun k _ hk => by
      rcases hk with hk | hk
      · exact .inr (Nat.le_trans hNB hk.1)
      · exact .inr (by omega))⟩
theorem wpListIn_append_run {F : Fence} {n : Nat} {P : Program} {ops : Array Oper} {rest : List Oper} {o : Oper} {a : Act} {w : World} {Q : Exit → Act → World → Prop} (hgd : o.guard = none) (s x : Operand) (t : TypeId)
    (ho : o.op = .call { callee := .builtin .append, args := #[s, x], argTypes := #[t, t] }) (vs vx : Value) (hs : a.eval s = vs) (hx : a.eval x = vx) (v : Value) (w' : World)
    (hr : (Builtin.append_ #[t, t] o.type #[vs, vx]).run P w = .ok v w') (h : wpListIn F n P ops Q rest (a.put o.dst v) w') : wpListIn F n P ops Q (o :: rest) a w :=
  wpListIn_plain hgd fun K hK => by
    unfold Oper.wpIn
    refine ⟨?_, ?_⟩
    · simp [Oper.about, ho, resolve, Target.leads, Sem.run_pure]
    · rw [Oper.semAt_plain F _ _ (by rw [ho]; intro c hc'; cases hc')]
      simp [execOp, ho, resolve, invoke, builtin, hs, hx, hr, Result.andThen]
      exact hK _ _ h
theorem wpListIn_store_row {F : Fence} {n : Nat} {P : Program} {ops : Array Oper} {rest : List Oper} {o : Oper} {a : Act} {w : World} {Q : Exit → Act → World → Prop} (hgd : o.guard = none) (ty : TypeId) (x y : Operand) (ho : o.op = .store ty x y)
    (g : Nat) (cells : Array Value) (hx : a.eval x = .pointer (some ⟨g, 0, none⟩)) (hy : a.eval y = .agg cells)
    (t : TypeId) (old : Array Value) (hg : w.heap[g]? = some (.cells old t (0, 0))) (hi : (P.info? ty).map (·.size) = some cells.size)
    (hold : old.size = cells.size) (h1 : cells.all (·.oneCell') = true)
    (h : wpListIn F n P ops Q rest (a.put o.dst undef) (w.setRow g cells)) : wpListIn F n P ops Q (o :: rest) a w :=
  wpListIn_plain hgd fun K hK => by
    unfold Oper.wpIn
    refine ⟨?_, ?_⟩
    · simp [Oper.about, ho]
    · rw [Oper.semAt_plain F _ _ (by rw [ho]; intro c hc'; cases hc')]
      unfold execOp
      simp only [ho, hx, hy, Instr.storeAt, Instr.sureAddr, Sem.run_bind, Sem.run_pure, Result.andThen_ok, run_storeVar_row w g t ty old cells hg hi hold h1]
      exact hK _ _ h
end Go.Proofs.YtjklbhdhjfifhaaGreat
