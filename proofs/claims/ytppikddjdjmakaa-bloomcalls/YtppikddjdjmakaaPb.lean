/-
  Probes: the places of a hash, in a row.
-/
import Derived.Test.YtppikddjdjmakaaIr
namespace Go.Proofs.Ytppikddjdjmakaa
open Go.RowKit Go.Shelf
set_option maxRecDepth 100000
set_option maxHeartbeats 4000000
attribute [local go_sem] Oper.semAt_some
/-- An append whose outcome is known, inside a fence. -/
theorem wpListIn_append_run {F : Fence} {n : Nat} {P : Program} {ops : Array Oper} {rest : List Oper} {o : Oper} {a : Act} {w : World} {Q : Exit → Act → World → Prop} (hgd : o.guard = none) (s x : Operand) (t : TypeId)
    (ho : o.op = .call { callee := .builtin .append, args := #[s, x], argTypes := #[t, t] }) (vs vx : Value) (hs : a.eval s = vs) (hx : a.eval x = vx) (v : Value) (w' : World)
    (hr : (Builtin.append_ #[t, t] o.type #[vs, vx]).run P w = .ok v w') (h : wpListIn F n P ops Q rest (a.put o.dst v) w') : wpListIn F n P ops Q (o :: rest) a w := by
  refine wpListIn_plain hgd fun K hK => ⟨?_, ?_⟩
  · simp [Oper.about, ho, resolve, Target.leads, Sem.run_pure]
  · rw [Oper.semAt_plain F _ _ (by rw [ho]; intro c hc'; cases hc')]
    simp [execOp, ho, resolve, invoke, builtin, hs, hx, hr, Result.andThen]
    exact hK _ _ h
/-- What lies in memory while the places come. -/
structure PbI (w : World) (k : Nat) (R : List Nat) (W : World) : Prop where
  row : RowC W w.heap.size 3 k (intCells R)
  box : W.heap[w.heap.size + 1]? = some (.cells #[.slice (some ⟨w.heap.size, 0, none⟩) R.length k] 33 (0, 0))
  below : Below w.heap.size w W
theorem PbI.own {w : World} {k : Nat} {R : List Nat} {B : Nat} (hB : w.heap.size ≤ B) {W W' : World} {row : Option Nat} (h : PbI w k R W) (hg : W.grownBy W' row) (hr : ∀ r, row = some r → B ≤ r ∧ ∃ o : Obj, W.heap[r]? = some o ∧ o.isCells = false) : PbI w k R W' := by
  have hr' := fun r e => (hr r e).2
  obtain ⟨cs, h1, h2, h3⟩ := h.row
  exact ⟨⟨cs, heap_own hg hr' h1, h2, h3⟩, heap_own hg hr' h.box, ownFrom_below (β := Unit) (Nat.le_refl _) hB () W W' row h.below hg hr⟩
theorem PbI.append {w : World} {k : Nat} {R : List Nat} {W : World} (h : PbI w k R W) (x : Nat) (hl : R.length < k) (hk : k ≤ 1000) :
    ∃ w', (∀ ty, (Builtin.append_ #[33, 33] ty #[.slice (some ⟨w.heap.size, 0, none⟩) R.length k, .slice (some ⟨W.heap.size, 0, none⟩) 1 1]).run Try.prog (W.alloc (.cells #[.int .i64 (x : Nat)] 3)) = .ok (.slice (some ⟨w.heap.size, 0, none⟩) (R.length + 1) k) w') ∧ RowC w' w.heap.size 3 k (intCells (R ++ [x])) ∧ Turns (fun b => b = w.heap.size) W w' := by
  have b0 := (Below.refl W.heap.size W).alloc (Nat.le_refl _) (.cells #[.int .i64 (x : Nat)] 3)
  have hg := heap_alloc_new W (.cells #[.int .i64 (x : Nat)] 3)
  have hsz : (W.alloc (.cells #[.int .i64 (x : Nat)] 3)).heap.size = W.heap.size + 1 := by simp
  have hrow := h.row.below b0
  have hlt : w.heap.size < W.heap.size := by obtain ⟨cs, h1, _⟩ := h.row; exact lt_of_heap h1
  generalize W.alloc (.cells #[.int .i64 (x : Nat)] 3) = w0 at *
  have hcell : ∀ j, w0.cell? ⟨W.heap.size, j, none⟩ = (#[.int .i64 (x : Nat)] : Array Value)[j]? := fun j => cell_of_row w0 _ j _ 3 (0, 0) hg
  have hsrc : Src Try.prog Try.t3.size 33 (.slice (some ⟨W.heap.size, 0, none⟩) 1 1) 1 [.int .i64 (x : Nat)] w0 := Src.ofSlice w0 Try.underlying33 ⟨W.heap.size, 0, none⟩ 1 1 _ (by rw [t3_size]; rfl) (fun j u hu => by
    rw [Go.WideShapes.add_plain, Nat.zero_add, hcell j]
    simpa using hu) (fun u hu => by
    simp only [List.mem_cons, List.not_mem_nil, or_false] at hu
    subst hu; rfl)
  obtain ⟨g', cp, w', hr, hg', hrow2, hb, hcp, hin, hnew, hkeep⟩ := append_gen2 (P := Try.prog) w0 w.heap.size 33 3 Try.t3 _ Try.underlying33 t3_info t3_zero rfl (some ⟨w.heap.size, 0, none⟩) R.length k (intCells R) (by rw [t3_size]; simp [intCells]) _ 1 _ hsrc (by omega)
    (.inr ⟨w.heap.size, rfl, Nat.le_refl _, by omega, by rw [t3_size, Nat.mul_one]; exact hrow⟩) (by rw [t3_bytes]; omega) (by omega)
  obtain ⟨e1, rfl⟩ := hin (by omega)
  obtain rfl : w.heap.size = g' := by cases e1; rfl
  refine ⟨w', hr, ?_, ?_⟩
  · rw [t3_size, Nat.mul_one] at hrow2
    rw [show intCells (R ++ [x]) = intCells R ++ [.int .i64 (x : Nat)] by simp [intCells]]
    exact hrow2
  · refine (Turns.of_below b0 _).trans ⟨hb.os, hb.tape, hb.output, hb.size, fun b hb1 hn => hkeep b hb1 fun e => hn (by cases e; rfl)⟩
theorem make33 (k : Nat) (hk : k ≤ 1000) (w : World) : ∃ cs : Array Value, (Instr.makeSlice 33 (.int .i64 0) (.int .i64 (k : Int))).run Try.prog w = .ok (.slice (some ⟨w.heap.size, 0, none⟩) 0 k) (w.alloc (.cells cs 3)) ∧ cs.size = k := by
  have hr := run_make (P := Try.prog) w 33 3 Try.t3 (.int .i64 0) Try.underlying33 t3_info t3_zero .i64 .i64 0 k (Int.le_refl _) (by omega) (by rw [t3_bytes]; omega) (by omega)
  simp only [Int.toNat_zero, Int.toNat_natCast] at hr
  exact ⟨_, hr, by rw [size_madeCells, t3_size, Nat.mul_one]⟩
theorem probes_bad (h : Nat) (n k : Int) (w : World) (hb : n < 1 ∨ 8388608 < n ∨ mayB k = false) :
    Calls Try.prog 13 #[.int .u64 (h : Nat), .int .i64 n, .int .i64 k] w fun e w' => e = .returned (.tuple #[.slice none 0 0, .int .i64 2]) ∧ w' = w := by
  by_cases h1 : n < 1
  · clear hb
    go_enter Try.func13, Try.ntmps13
    go_wp2_with fail
    go_ret2
    exact ⟨rfl, rfl⟩
  · by_cases h2 : 8388608 < n
    · clear hb
      go_enter Try.func13, Try.ntmps13
      go_wp2_with fail
      go_ret2
      exact ⟨rfl, rfl⟩
    · have hm : mayB k = false := by
        rcases hb with h | h | h
        · exact absurd h h1
        · exact absurd h h2
        · exact h
      clear hb
      go_enter Try.func13, Try.ntmps13
      go_wp2_with (go_at_call 25; refine (mayProbe_any _ _).mono ?_; rintro e w1 ⟨rfl, rfl⟩; rw [hm])
      go_ret2
      exact ⟨rfl, rfl⟩
theorem probes_ok (h N k : Nat) (w : World) (hh : h < 18446744073709551616) (hN1 : 1 ≤ N) (hN2 : N ≤ 8388608) (hk1 : 1 ≤ k) (hk2 : k ≤ 30) :
    Calls Try.prog 13 #[.int .u64 (h : Nat), .int .i64 (N : Nat), .int .i64 (k : Nat)] w fun e w' => e = .returned (.tuple #[.slice (some ⟨w.heap.size, 0, none⟩) k k, .int .i64 0]) ∧ RowC w' w.heap.size 3 k (intCells (probes h N k)) ∧ Below w.heap.size w w' := by
  have hm : mayB (k : Int) = true := by
    unfold mayB
    exact decide_eq_true (by omega)
  obtain ⟨cs, hmk, hcs⟩ := make33 k (by omega) w
  have n1 : ¬ (N : Int) < 1 := by omega
  have n2 : ¬ 8388608 < (N : Int) := by omega
  have hI0 : PbI w k [] ((w.alloc (.cells cs 3)).alloc (.cells #[.slice (some ⟨w.heap.size, 0, none⟩) 0 k] 33)) := by
    refine ⟨⟨cs, heap_keep ((Below.refl _ _).alloc (Nat.le_refl _) _) (heap_alloc_new w _), by omega, fun j hj => by simp [intCells] at hj⟩, ?_, ((Below.refl _ _).alloc (Nat.le_refl _) _).alloc (by simp) _⟩
    have := heap_alloc_new (w.alloc (.cells cs 3)) (.cells #[.slice (some ⟨w.heap.size, 0, none⟩) 0 k] 33)
    rwa [World.size_alloc] at this
  have HI0 := hide hI0
  have HH := hide hh
  have HPL := hide (places_any h N k ((w.alloc (.cells cs 3)).alloc (.cells #[.slice (some ⟨w.heap.size, 0, none⟩) 0 k] 33)))
  have HCN := hide (caught_new h N k ((w.alloc (.cells cs 3)).alloc (.cells #[.slice (some ⟨w.heap.size, 0, none⟩) 0 k] 33)))
  simp only [World.size_alloc] at HCN HPL
  clear hI0 hcs hh
  refine (callsIn_wide (n := 5)).1 ?_
  refine callsIn_of_wp_marks Try.func13 rfl trivial ?_ rfl
  simp only [Try.ntmps13, List.size_toArray, List.length_cons, List.length_nil, Nat.reduceAdd, Nat.reduceSub, Array.replicate_succ, Array.replicate_zero, List.push_toArray, List.append_toArray, List.nil_append, List.cons_append]
  gi_wp2_with (first
    | (refine ⟨trivial, ?_⟩; gi_at_call 25; refine (callsIn_wide.2 (mayProbe_any _ _)).mono ?_; rintro e w1 ⟨rfl, hw1⟩; subst hw1; rw [hm])
    | (refine ⟨trivial, ?_⟩; gi_at_call 24; refine (callsIn_wide.2 HPL.out).mono ?_; rintro e w3 ⟨rfl, hw3⟩; subst hw3))
  have hI0 := (((HI0.out.own (Nat.le_refl _) (World.grownBy_alloc _ (.cells #[.int .u64 (h : Nat)] 31) none) (fun r e => by cases e)).own (Nat.le_refl _) (World.grownBy_alloc _ (.cells #[.int .i64 (N : Nat)] 3) none) (fun r e => by cases e)).own (Nat.le_refl _) (World.grownBy_alloc _ (.cells #[.int .i64 (k : Nat)] 3) none) (fun r e => by cases e))
  have hs0 : (((((w1.alloc (.cells cs 3)).alloc (.cells #[.slice (some ⟨w1.heap.size, 0, none⟩) 0 k] 33)).alloc (.cells #[.int .u64 (h : Nat)] 31)).alloc (.cells #[.int .i64 (N : Nat)] 3)).alloc (.cells #[.int .i64 (k : Nat)] 3)).heap.size = w1.heap.size + 5 := by simp
  generalize (((((w1.alloc (.cells cs 3)).alloc (.cells #[.slice (some ⟨w1.heap.size, 0, none⟩) 0 k] 33)).alloc (.cells #[.int .u64 (h : Nat)] 31)).alloc (.cells #[.int .i64 (N : Nat)] 3)).alloc (.cells #[.int .i64 (k : Nat)] 3)) = W0 at *
  have HI1 := hide hI0
  clear hI0 HI0 HPL hmk
  refine wpIn_rangeFunc_ownH (w := W0) rfl (by decide) (gf := 28) (lb := #[.pointer (some ⟨w1.heap.size + 1 + 1, 0, none⟩), .pointer (some ⟨w1.heap.size + 1 + 1 + 2, 0, none⟩), .pointer (some ⟨w1.heap.size + 1 + 1 + 1, 0, none⟩)]) rfl trivial (enters_of Try.func28 (by kernel_rfl) rfl)
    (places_stops 4 (w1.heap.size + 1 + 1) h N k (by decide) HH.out hN1 hN2 hk2 W0 HCN.out) Keep3.trans (fun W l o o' _ ho hc _ => Keep3.put W l o o' ho hc) (Below.refl _ _) (fun _ => rfl)
    (fun (pre : List (Fin N)) W => PbI w1 k (List.map (fun x : Fin N => x.val) pre) W)
    (fun _ _ _ => False)
    (fun _ W W' row h hg hr => h.own (by omega) hg hr)
    (fun _ _ _ _ _ h _ _ => h)
    HI1.out
    (fun (x : Fin N) a' _ => a' = { tmps := #[Value.int IntKind.u64 (h : Nat), Value.int IntKind.i64 (N : Nat), Value.int IntKind.i64 (k : Nat), undef, undef, undef, Value.slice none 0 0, Value.int IntKind.i64 0, Value.pointer (some ⟨w1.heap.size + 1, 0, none⟩), Value.int IntKind.i64 (x.val : Nat), Value.int IntKind.i64 (N : Nat), Value.bool false, Value.bool false, Value.int IntKind.i64 (N : Nat), Value.bool false, Value.bool false, Value.bool false, Value.int IntKind.i64 (k : Nat), Value.bool true, Value.bool false, Value.bool false, Value.int IntKind.i64 (k : Nat), Value.slice (some ⟨w1.heap.size, 0, none⟩) 0 k, Value.int IntKind.u64 (h : Nat), Value.int IntKind.i64 (N : Nat), Value.int IntKind.i64 (k : Nat), Value.func (Fn.func 28) #[] #[Value.pointer (some ⟨w1.heap.size + 1 + 1, 0, none⟩), Value.pointer (some ⟨w1.heap.size + 1 + 1 + 2, 0, none⟩), Value.pointer (some ⟨w1.heap.size + 1 + 1 + 1, 0, none⟩)], Value.int IntKind.i64 (x.val : Nat), undef, undef, undef, undef, undef], defers := [] })
    (fun _ _ _ _ _ _ h _ _ => h) ?assign ?body ?done ?stop
  case assign =>
    rintro l pre x W K hI hK
    gi_wp2
    exact hK _ _ ((KeepsOthers.refl _).from _) (fun _ _ _ _ _ _ e => e) hI rfl
  case body =>
    rintro l pre x a' W hl ⟨r, hr⟩ hI rfl hlt
    have HIW := hide hI
    have HMP : Hid ((pre ++ [x]).map (·.val) = pre.map (·.val) ++ [x.val]) := hide (by rw [List.map_append, List.map_singleton])
    have hlen : (pre.map (·.val)).length < k := by rw [List.length_map]; exact hlt
    obtain ⟨w', hrun, hrow, ht⟩ := hI.append x.val hlen (by omega)
    have c1 : W.cell? ⟨w1.heap.size + 1, 0, none⟩ = some (.slice (some ⟨w1.heap.size, 0, none⟩) (pre.map (·.val)).length k) := cell_of_row W _ 0 _ 33 (0, 0) hI.box
    have hbx : w'.heap[w1.heap.size + 1]? = some (.cells #[.slice (some ⟨w1.heap.size, 0, none⟩) (pre.map (·.val)).length k] 33 (0, 0)) := ht.heap hI.box (by omega)
    have c2 : w'.cell? ⟨w1.heap.size + 1, 0, none⟩ = some (.slice (some ⟨w1.heap.size, 0, none⟩) (pre.map (·.val)).length k) := cell_of_row w' _ 0 _ 33 (0, 0) hbx
    have z2 : w'.frozen? ⟨w1.heap.size + 1, 0, none⟩ = false := frozen_of_row w' _ 0 _ 33 hbx
    have HRUN := hide (hrun 33)
    have HROW := hide hrow
    have HT := hide ht
    have HBX := hide hbx
    generalize pre.map (·.val) = R at *
    generalize hRl : R.length = rl at *
    clear hI hrun hrow ht hbx
    gi_wp2_with (gi_at_builtin; refine wpListIn_append_run rfl (.tmp 28) (.tmp 30) 33 rfl (.slice (some ⟨w1.heap.size, 0, none⟩) rl k) (.slice (some ⟨W.heap.size, 0, none⟩) 1 1) rfl rfl _ _ HRUN.out ?_)
    have tk := HT.out.size
    have hw1 : w1.heap.size < W.heap.size := by obtain ⟨cs', h1, _⟩ := HIW.out.row; exact lt_of_heap h1
    have ho : ∀ b, b ≠ w1.heap.size + 1 → (w'.setCell ⟨w1.heap.size + 1, 0, none⟩ (.slice (some ⟨w1.heap.size, 0, none⟩) (rl + 1) k)).heap[b]? = w'.heap[b]? := fun b hb => heap_setCell_other _ _ _ _ (by exact hb)
    have hcells : ∃ cs', W.heap[w1.heap.size]? = some (.cells cs' 3 (0, 0)) := by obtain ⟨cs', h1, _⟩ := HIW.out.row; exact ⟨cs', h1⟩
    refine ⟨⟨by simpa using tk, fun b ob _ hb hob => ?_⟩, fun b h1 h2 cs' t fr e => ?_, ?_⟩
    · have hb1 : b ≠ w1.heap.size + 1 := fun e => by rw [e, HIW.out.box] at hb; cases hb; cases hob
      have hb2 : b ≠ w1.heap.size := fun e => by obtain ⟨cs', h1⟩ := hcells; rw [e, h1] at hb; cases hb; cases hob
      exact (ho b hb1).trans (HT.out.heap hb hb2)
    · exact (ho b (by omega)).trans (HT.out.heap e (by omega))
    · show PbI w1 k ((pre ++ [x]).map (·.val)) _
      rw [HMP.out]
      obtain ⟨cs', h1, h2, h3⟩ := HROW.out
      refine ⟨⟨cs', (ho _ (by omega)).trans h1, h2, h3⟩, ?_, ?_⟩
      · have := heap_setCell_same w' (w1.heap.size + 1) 0 _ 33 (.slice (some ⟨w1.heap.size, 0, none⟩) (rl + 1) k) HBX.out
        rw [List.length_append, hRl]
        exact this
      · exact (HIW.out.below.trans (HT.out.below (by omega) (fun b e => by omega))).setCell (p := ⟨w1.heap.size + 1, 0, none⟩) (by show w1.heap.size ≤ w1.heap.size + 1; omega) _
  case done =>
    rintro D xs W hD rfl hI hK
    have HIW := hide hI
    have HK2 := hide hK
    have c1 : W.cell? ⟨w1.heap.size + 1, 0, none⟩ = some (.slice (some ⟨w1.heap.size, 0, none⟩) ((probesF h hN1 k).map (·.val)).length k) := cell_of_row W _ 0 _ 33 (0, 0) hI.box
    rw [List.length_map, probesF_length] at c1
    clear hI hK
    gi_wp2
    refine leaves_marks w1.heap.size [D] _ (List.nodup_cons.2 ⟨fun h => (by cases h), List.nodup_nil⟩) (fun D' h => by obtain rfl := List.mem_singleton.1 h; omega) (fun D' h => by obtain rfl := List.mem_singleton.1 h; exact HK2.out) (fun w' hb hc => ⟨.tuple #[.slice (some ⟨w1.heap.size, 0, none⟩) k k, .int .i64 0], by simp [results, Try.results13, go_sem], rfl, ?_, HIW.out.below.trans hb⟩)
    obtain ⟨cs', h1, h2, h3⟩ := HIW.out.row
    rw [probesF_val] at h3
    exact ⟨cs', hc _ _ _ _ h1, h2, h3⟩
  case stop =>
    rintro D c pre W _ _ h _
    exact h.elim
end Go.Proofs.Ytppikddjdjmakaa
