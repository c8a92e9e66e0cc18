import Derived.Test.YtjklbhdhjfifhaaGreatM08
import Derived.Deep.RegionLaw
/-
  A change of the directory: it is applied, and kept behind the others.
-/
namespace Go.Proofs.YtjklbhdhjfifhaaGreat
open Go.RowKit Go.Maps

theorem step_append_runV {P : Program} {ops : Array Oper} {o : Oper} {a : Act} {w : World} {K : Act → World → Prop} {Q : Exit → Act → World → Prop} {E : Prop} (hgd : o.guard = none) (s x : Operand) (t : TypeId)
    (ho : o.op = .call { callee := .builtin .append, args := #[s, x], argTypes := #[t, t] }) (vs vx : Value) (hs : a.eval s = vs) (hx : a.eval x = vx) (v : Value) (w' : World)
    (hr : (Builtin.append_ #[t, t] o.type #[vs, vx]).run P w = .ok v w') (d : Nat) (hd : o.dst = some d) (h : K (a.put (some d) v) w') :
    if Region.wanted o (yielded ops a.tmps) = true then Oper.wp P o a w K Q else E := by
  have hw : Region.wanted o (yielded ops a.tmps) = true := by simp [Region.wanted, hgd]
  rw [if_pos hw]
  unfold Oper.wp execOp
  simp only [ho, resolve, invoke, builtin, Sem.run_bind, Sem.run_pure, Result.andThen_ok, List.map_toArray, List.map_cons, List.map_nil, hs, hx, hr]
  show K (a.put o.dst v) w'
  rw [hd]
  exact h

theorem Turns.setCell {S : Nat → Prop} {a w : World} (h : Turns S a w) {p : Addr} (hp : S p.block) (v : Value) : Turns S a (w.setCell p v) :=
  h.trans ⟨rfl, rfl, rfl, by simp, fun k _ hn => heap_setCell_other w p k v fun e => hn (by rw [e]; exact hp)⟩

/-- The cells of changes. -/
def chCells (l : List Chg) : List Value := l.flatMap fun c => [.string c.went, .string c.became, ptrOf c.file]
theorem chCells_length (l : List Chg) : (chCells l).length = l.length * 3 := by
  induction l with
  | nil => rfl
  | cons c r ih => simp only [chCells, List.flatMap_cons, List.length_append, List.length_cons, List.length_nil] at ih ⊢; omega
theorem chCells_snoc (l : List Chg) (c : Chg) : chCells (l ++ [c]) = chCells l ++ [.string c.went, .string c.became, ptrOf c.file] := by simp [chCells]
/-- The block that a slice of one's own lies in. -/
def inRowV (v : Value) (k : Nat) : Prop := ∃ n c, v = .slice (some ⟨k, 0, none⟩) n c
/-- Changes in a list of one's own, or none. -/
def Chs (w : World) (v : Value) (l : List Chg) : Prop :=
  (l = [] ∧ v = .slice none 0 0) ∨ ∃ (g c n : Nat), v = .slice (some ⟨g, 0, none⟩) n c ∧ n = l.length ∧ 0 < n ∧ n ≤ c ∧ RowC w g 111 (c * 3) (chCells l)
theorem Chs.keep {S : Nat → Prop} {w w' : World} {v : Value} {l : List Chg} (h : Chs w v l) (ht : Turns S w w') (hn : ∀ k, inRowV v k → ¬ S k) : Chs w' v l := by
  rcases h with h | ⟨g, c, n, h1, h2, h3, h4, cs, h5, h6, h7⟩
  · exact .inl h
  · exact .inr ⟨g, c, n, h1, h2, h3, h4, cs, ht.heap h5 (hn g ⟨n, c, h1⟩), h6, h7⟩
theorem Chs.row {w : World} {v : Value} {l : List Chg} (h : Chs w v l) {k : Nat} (hk : inRowV v k) : ∃ cs, w.heap[k]? = some (.cells cs 111 (0, 0)) := by
  obtain ⟨n', c', e⟩ := hk
  rcases h with ⟨_, h⟩ | ⟨g, c, n, h1, h2, h3, h4, cs, h5, h6, h7⟩
  · rw [h] at e; cases e
  · rw [h1] at e; cases e; exact ⟨cs, h5⟩

theorem t72_size : Tryz.t111.size = 3 := by kernel_rfl
theorem t72_bytes : Tryz.t111.bytes = 40 := by kernel_rfl
theorem t72_info : Tryz.prog.info? 111 = some Tryz.t111 := by kernel_rfl
theorem t72_zero : Tryz.t111.zero = some (.agg #[.string ⟨#[]⟩, .string ⟨#[]⟩, .pointer none]) := by kernel_rfl

/-- One change that is appended. -/
theorem append_chg (w : World) (v : Value) (l : List Chg) (h : Chs w v l) (hlen : l.length ≤ 1000000000) (x : Chg) (a : Addr) (c : Nat) (ha : ∀ j u, [Value.string x.went, .string x.became, ptrOf x.file][j]? = some u → w.cell? (a.add j) = some u) :
    ∃ (g' n' c' : Nat) (w' : World), (∀ ty, (Builtin.append_ #[69, 69] ty #[v, .slice (some a) 1 c]).run Tryz.prog w = .ok (.slice (some ⟨g', 0, none⟩) n' c') w') ∧ Chs w' (.slice (some ⟨g', 0, none⟩) n' c') (l ++ [x]) ∧ Turns (inRowV v) w w' ∧ ∀ k, inRowV (.slice (some ⟨g', 0, none⟩) n' c') k → inRowV v k ∨ w.heap.size ≤ k := by
  have hsrc : Src Tryz.prog Tryz.t111.size 69 (.slice (some a) 1 c) 1 [.string x.went, .string x.became, ptrOf x.file] w := Src.ofSlice w Tryz.underlying69 a 1 c _ (by rw [t72_size]; rfl) ha (fun u hu => by
    simp only [List.mem_cons, List.not_mem_nil, or_false] at hu
    rcases hu with rfl | rfl | rfl
    · rfl
    · rfl
    · cases x.file <;> rfl)
  obtain ⟨base, sLen, sCap, rfl, hsl, hbase⟩ : ∃ (base : Option Addr) (sLen sCap : Nat), v = .slice base sLen sCap ∧ sLen = l.length ∧ ((base = none ∧ sLen = 0 ∧ sCap = 0 ∧ 0 < 1) ∨ ∃ g, base = some ⟨g, 0, none⟩ ∧ 0 ≤ g ∧ sLen ≤ sCap ∧ RowC w g 111 (sCap * Tryz.t111.size) (chCells l)) := by
    rcases h with ⟨rfl, rfl⟩ | ⟨g, c, n, rfl, rfl, _, h4, h5⟩
    · exact ⟨none, 0, 0, rfl, rfl, .inl ⟨rfl, rfl, rfl, by omega⟩⟩
    · exact ⟨_, _, _, rfl, rfl, .inr ⟨g, rfl, Nat.zero_le _, h4, by rw [t72_size]; exact h5⟩⟩
  obtain ⟨g, cp, w', hr, hg, hrow, hb, hcp, hin, hout, hkeep⟩ := append_gen2 (P := Tryz.prog) w 0 69 111 Tryz.t111 _ Tryz.underlying69 t72_info t72_zero rfl base sLen sCap (chCells l) (by rw [chCells_length, t72_size, hsl]) _ 1 _ hsrc (Nat.zero_le _) hbase (by rw [t72_bytes]; omega) (by omega)
  refine ⟨g, _, cp, w', hr, .inr ⟨g, cp, _, rfl, by simp [hsl], by omega, hcp, ?_⟩, ⟨hb.os, hb.tape, hb.output, hb.size, fun k hk hn => hkeep k hk fun e => hn ⟨sLen, sCap, by rw [e]⟩⟩, fun k hk => ?_⟩
  · rw [t72_size] at hrow
    rw [chCells_snoc]
    exact hrow
  · obtain ⟨n', c', e⟩ := hk
    cases e
    rcases Nat.lt_or_ge sCap (sLen + 1) with hc | hc
    · exact .inr (by rw [hout hc]; exact Nat.le_refl _)
    · exact .inl ⟨sLen, sCap, by rw [(hin hc).1]⟩

theorem Dir.map {w : World} {b n : Nat} {D : DataW Unit} (h : Dir w b n D) : ∃ es clock, w.heap[b]? = some (.map es clock) := by
  obtain ⟨es, clock, hb, _⟩ := h
  exact ⟨es, clock, hb⟩
theorem Dir.ne_cells {w : World} {b n : Nat} {D : DataW Unit} (h : Dir w b n D) {k : Nat} {cs : Array Value} {t : TypeId} {fr : Nat × Nat} (hk : w.heap[k]? = some (.cells cs t fr)) : k ≠ b := by
  obtain ⟨es, clock, hb⟩ := h.map
  intro e
  rw [e, hb] at hk
  cases hk

set_option maxRecDepth 100000 in
set_option maxHeartbeats 4000000 in
theorem change_any (f b n : Nat) (D : DataW Unit) (l : List Chg) (c : Chg) (limit used lost ops fuse fault fail : Int) (on : Bool) (sy ch : Value) (w : World)
    (h : w.heap[f]? = some (.cells (fsCells limit (.map (some b)) sy ch used lost on ops fuse fault fail) 72 (0, 0))) (hd : Dir w b n D) (hl : Chs w ch l) (hn : n < maxLen) (hlen : l.length ≤ 1000000000) (h1 : c.went.size ≤ maxLen) (h2 : c.became.size ≤ maxLen) :
    Calls Tryz.prog 62 #[.pointer (some ⟨f, 0, none⟩), .agg c.cells] w fun e w' => (∃ v, e = .returned v) ∧ ∃ ch', w'.heap[f]? = some (.cells (fsCells limit (.map (some b)) sy ch' used lost on ops fuse fault fail) 72 (0, 0)) ∧ Dir w' b (n + 1) (applyD D c) ∧ Chs w' ch' (l ++ [c]) ∧
      Turns (fun k => k = f ∨ k = b ∨ inRowV ch k) w w' ∧ ∀ k, inRowV ch' k → inRowV ch k ∨ w.heap.size ≤ k := by
  have hfb : f ≠ b := hd.ne_cells h
  have hfw := lt_of_heap h
  have hrb : ∀ k, inRowV ch k → k ≠ b ∧ k ≠ f := fun k hk => by
    obtain ⟨cs, hc⟩ := hl.row hk
    refine ⟨hd.ne_cells hc, fun e => ?_⟩
    rw [e, h] at hc
    cases hc
  obtain ⟨went, became, file⟩ := c
  have T0 : Turns (fun k => k = f ∨ k = b ∨ inRowV ch k) w (w.alloc (.cells #[.string went, .string became, ptrOf file] 111)) := (Turns.refl _ w).alloc _
  have hnew := heap_alloc_new w (.cells #[.string went, .string became, ptrOf file] 111)
  have hf0 := (heap_alloc_old w (.cells #[.string went, .string became, ptrOf file] 111) hfw).trans h
  have D0 := hide (World.ownsMap.alloc hd (.cells #[.string went, .string became, ptrOf file] 111))
  have L0 := hide (hl.keep ((Turns.refl (fun _ => False) w).alloc (.cells #[.string went, .string became, ptrOf file] 111)) (fun _ _ x => x))
  have hgb : w.heap.size ≠ b := fun e => by have := hd.lt; omega
  have hsz0 : (w.alloc (.cells #[.string went, .string became, ptrOf file] 111)).heap.size = w.heap.size + 1 := by simp
  clear h hl hd
  show Calls Tryz.prog 62 #[.pointer (some ⟨f, 0, none⟩), .agg #[.string went, .string became, ptrOf file]] w _
  go_enter Tryz.func62, Tryz.ntmps62
  go_wp2_with fail
  generalize w.alloc (.cells #[.string went, .string became, ptrOf file] 111) = w0 at *
  generalize hg0 : w.heap.size = g0 at *
  have c1 : w0.cell? ⟨f, 1, none⟩ = some (.map (some b)) := cell_of_row _ _ 1 _ 72 (0, 0) hf0
  have b0 : w0.cell? ⟨g0, 0, none⟩ = some (.string went) := cell_of_row _ _ 0 _ 111 (0, 0) hnew
  have b1 : w0.cell? ⟨g0, 1, none⟩ = some (.string became) := cell_of_row _ _ 1 _ 111 (0, 0) hnew
  have b2 : w0.cell? ⟨g0, 2, none⟩ = some (ptrOf file) := cell_of_row _ _ 2 _ 111 (0, 0) hnew
  have HT0 := hide T0
  have HF0 := hide hf0
  have HN0 := hide hnew
  have HRB := hide hrb
  clear T0 hf0 hnew hrb
  go_region_held (fun w' => w'.cell? ⟨f, 1, none⟩ = some (.map (some b)) ∧ w'.cell? ⟨g0, 0, none⟩ = some (.string went) ∧ w'.cell? ⟨g0, 1, none⟩ = some (.string became) ∧ w'.cell? ⟨g0, 2, none⟩ = some (ptrOf file)) (first | (with_reducible exact ⟨e1, e2, e3, e4⟩) | (simp only [World.cell?_drew]; with_reducible exact ⟨c1, b0, b1, b2⟩)) (first
    | (go_at_call 104; refine (apply_any b n D ⟨went, became, file⟩ _ (World.ownsMap.drew D0.out) hn h1 h2).mono ?_; rintro e w1 ⟨⟨v, rfl⟩, hd1, t1⟩; have e1 := t1.cell (a := w0.drew) c1 hfb; have e2 := t1.cell (a := w0.drew) b0 hgb; have e3 := t1.cell (a := w0.drew) b1 hgb; have e4 := t1.cell (a := w0.drew) b2 hgb; have HD1 := hide hd1; have HT1 := hide t1; clear hd1 t1))
  go_wp2_with fail
  clear e1 e2 e3 e4 c1 b0 b1 b2
  have HF1 := hide (HT1.out.heap (a := w0.drew) HF0.out hfb)
  have HN1 := hide (HT1.out.heap (a := w0.drew) HN0.out hgb)
  have HL1 := hide (L0.out.keep (w := w0.drew) HT1.out (fun k hk => (HRB.out k hk).1))
  have HT1' : Hid (Turns (fun k => k = f ∨ k = b ∨ inRowV ch k) w w1) := HT0.out.drew.trans (HT1.out.mono fun k _ e => .inr (.inl e))
  have hx : (w1.drew.alloc (.cells #[.string went, .string became, ptrOf file] 111)).heap[w1.heap.size]? = some (.cells #[.string went, .string became, ptrOf file] 111 (0, 0)) := heap_alloc_new w1.drew _
  have T2 : Turns (fun _ => False) w1 (w1.drew.alloc (.cells #[.string went, .string became, ptrOf file] 111)) := (Turns.refl _ w1).drew.alloc _
  obtain ⟨g3, n3, c3, w3, hr3, hl3, t3, hin3⟩ := append_chg (w1.drew.alloc (.cells #[.string went, .string became, ptrOf file] 111)) ch l (HL1.out.keep T2 (fun _ _ x => x)) hlen ⟨went, became, file⟩ ⟨w1.heap.size, 0, none⟩ 1 (fun j u hu => by
    rw [Go.WideShapes.add_plain, Nat.zero_add, cell_of_row _ _ _ _ _ _ hx, List.getElem?_toArray]
    exact hu)
  have HT3 := hide ((HT1'.out.trans (T2.mono fun _ _ x => x.elim)).trans (t3.mono fun k _ e => .inr (.inr e)))
  have HF3 := hide (t3.heap (T2.heap HF1.out (fun x => x)) (fun hk => (HRB.out f hk).2 rfl))
  have HD3 := hide ((HD1.out.keep T2 (fun x => x)).keep t3 (fun hk => (HRB.out b hk).1 rfl))
  have HL3 := hide hl3
  have hin : ∀ k, inRowV (.slice (some ⟨g3, 0, none⟩) n3 c3) k → inRowV ch k ∨ g0 ≤ k := fun k hk => (hin3 k hk).imp id fun hle => Nat.le_trans (by rw [← hg0]; exact Nat.le_trans HT1'.out.size T2.size) hle
  have HIN := hide hin
  have FIN : Hid ((∃ v, Ending.returned (Value.tuple #[]) = Ending.returned v) ∧ ∃ ch', (w3.setCell ⟨f, 3, none⟩ (.slice (some ⟨g3, 0, none⟩) n3 c3)).heap[f]? = some (.cells (fsCells limit (.map (some b)) sy ch' used lost on ops fuse fault fail) 72 (0, 0)) ∧
      Dir (w3.setCell ⟨f, 3, none⟩ (.slice (some ⟨g3, 0, none⟩) n3 c3)) b (n + 1) (applyD D ⟨went, became, file⟩) ∧ Chs (w3.setCell ⟨f, 3, none⟩ (.slice (some ⟨g3, 0, none⟩) n3 c3)) ch' (l ++ [⟨went, became, file⟩]) ∧
      Turns (fun k => k = f ∨ k = b ∨ inRowV ch k) w (w3.setCell ⟨f, 3, none⟩ (.slice (some ⟨g3, 0, none⟩) n3 c3)) ∧ ∀ k, inRowV ch' k → inRowV ch k ∨ w.heap.size ≤ k) := by
    have hgf : ∀ k, inRowV (.slice (some ⟨g3, 0, none⟩) n3 c3) k → ¬ k = f := fun k hk e => by
      rcases HIN.out k hk with h | h
      · exact (HRB.out k h).2 e
      · omega
    refine ⟨⟨_, rfl⟩, _, heap_setCell_same w3 f 3 _ 72 _ HF3.out, HD3.out.setCell (by exact hfb.symm) _, HL3.out.keep ((Turns.refl (fun k => k = f) w3).setCell rfl _) hgf, HT3.out.setCell (.inl rfl) _, fun k hk => ?_⟩
    rw [hg0]
    exact HIN.out k hk
  have hq := hr3 69
  have q3 : w1.cell? ⟨f, 3, none⟩ = some ch := cell_of_row _ _ 3 _ 72 (0, 0) HF1.out
  have q3' : (w1.alloc (.cells #[.string went, .string became, ptrOf file] 111)).cell? ⟨f, 3, none⟩ = some ch := cell_of_row _ _ 3 _ 72 (0, 0) ((heap_alloc_old w1 _ (lt_of_heap HF1.out)).trans HF1.out)
  have q0 : w1.cell? ⟨g0, 0, none⟩ = some (.string went) := cell_of_row _ _ 0 _ 111 (0, 0) HN1.out
  have q1 : w1.cell? ⟨g0, 1, none⟩ = some (.string became) := cell_of_row _ _ 1 _ 111 (0, 0) HN1.out
  have q2 : w1.cell? ⟨g0, 2, none⟩ = some (ptrOf file) := cell_of_row _ _ 2 _ 111 (0, 0) HN1.out
  have y3 : w3.cell? ⟨f, 3, none⟩ = some ch := cell_of_row _ _ 3 _ 72 (0, 0) HF3.out
  have z3 : w3.frozen? ⟨f, 3, none⟩ = false := frozen_of_row _ _ 3 _ 72 HF3.out
  clear hx T2 hl3 t3 hin3 hr3 hin
  go_region_law (first
    | (refine step_append_runV rfl (.tmp 14) (.tmp 16) 69 rfl _ _ rfl rfl _ _ hq 17 rfl ?_; simp only [Act.put, List.setIfInBounds_toArray, List.set_cons_zero, List.set_cons_succ]))
  all_goals go_wp2_with fail
  all_goals go_end0
  all_goals exact FIN.out
end Go.Proofs.YtjklbhdhjfifhaaGreat

/-
  Create: a file without bytes becomes part of the directory, if its name is not there.
-/
namespace Go.Proofs.YtjklbhdhjfifhaaGreat
open Go.RowKit Go.Maps

/-- What a look into a directory answers. -/
theorem Dir.look {w : World} {b n : Nat} {D : DataW Unit} (h : Dir w b n D) (s : ByteArray) (hs : s.size ≤ maxLen) :
    ∃ p : Option Nat, (Instr.lookup 68 (.map (some b)) (.string s) false).run Tryz.prog w = .ok (ptrOf p) w ∧ D.atKey (key s) .nil = match p with | none => .nil | some g => .lit (.int .i64 (g : Nat)) := by
  obtain ⟨v, ps, hr, hv⟩ := World.ownsMap.lookup h law9 Tryz.underlying68 (zero67 w) ptrR_none (keyOf9 s hs)
  rcases ptrR_inv hv with ⟨rfl, hd⟩ | ⟨g, rfl, hd⟩
  · exact ⟨none, hr, hd⟩
  · exact ⟨some g, hr, hd⟩
/-- Which file a name is. -/
def fileOf (D : DataW Unit) (s : ByteArray) : Option Nat :=
  match D.atKey (key s) .nil with
  | .lit (.int .i64 n) => some n.toNat
  | _ => none
theorem Dir.look' {w : World} {b n : Nat} {D : DataW Unit} (h : Dir w b n D) (s : ByteArray) (hs : s.size ≤ maxLen) :
    (Instr.lookup 68 (.map (some b)) (.string s) false).run Tryz.prog w = .ok (ptrOf (fileOf D s)) w := by
  obtain ⟨p, hr, hd⟩ := h.look s hs
  have : fileOf D s = p := by
    unfold fileOf
    rw [hd]
    cases p <;> simp
  rw [this]
  exact hr

set_option maxRecDepth 100000 in
set_option maxHeartbeats 1000000 in
theorem create1_there (f b n pf pn g : Nat) (D : DataW Unit) (name : ByteArray) (w : World) (h0 : w.cell? ⟨pf, 0, none⟩ = some (.pointer (some ⟨f, 0, none⟩))) (h1 : w.cell? ⟨pn, 0, none⟩ = some (.string name)) (h2 : w.cell? ⟨f, 1, none⟩ = some (.map (some b))) (hd : Dir w b n D) (hs : name.size ≤ maxLen) (hg : fileOf D name = some g) :
    Calls Tryz.prog 61 #[.pointer (some ⟨pf, 0, none⟩), .pointer (some ⟨pn, 0, none⟩)] w fun e w' => e = .returned (.int .i64 5) ∧ ∃ m, w' = w.drewN m := by
  have hl := fun m => Dir.look' (w := w.drewN m) hd name hs
  rw [hg] at hl
  simp only [ptrOf] at hl
  clear hd hg
  go_enter Tryz.func61, Tryz.ntmps61
  go_wp2_with fail
  go_quiet (fail)
  go_wp2_with fail
  go_ret
  exact ⟨rfl, _, rfl⟩

set_option maxRecDepth 100000 in
set_option maxHeartbeats 1000000 in
theorem create1_new (f b n pf pn : Nat) (D : DataW Unit) (l : List Chg) (name : ByteArray) (limit used lost ops fuse fault fail : Int) (on : Bool) (sy ch : Value) (w : World) (h0 : w.cell? ⟨pf, 0, none⟩ = some (.pointer (some ⟨f, 0, none⟩))) (h1 : w.cell? ⟨pn, 0, none⟩ = some (.string name))
    (h : w.heap[f]? = some (.cells (fsCells limit (.map (some b)) sy ch used lost on ops fuse fault fail) 72 (0, 0))) (hd : Dir w b n D) (hl : Chs w ch l) (hn : n < maxLen) (hlen : l.length ≤ 1000000000) (hs : name.size ≤ maxLen) (hg : fileOf D name = none) :
    Calls Tryz.prog 61 #[.pointer (some ⟨pf, 0, none⟩), .pointer (some ⟨pn, 0, none⟩)] w fun e w' => e = .returned (.int .i64 0) ∧ ∃ ch', w'.heap[f]? = some (.cells (fsCells limit (.map (some b)) sy ch' used lost on ops fuse fault fail) 72 (0, 0)) ∧
      w'.heap[w.heap.size]? = some (.cells #[.slice none 0 0, .int .i64 0] 99 (0, 0)) ∧ Dir w' b (n + 1) (applyD D ⟨⟨#[]⟩, name, some w.heap.size⟩) ∧ Chs w' ch' (l ++ [⟨⟨#[]⟩, name, some w.heap.size⟩]) ∧
      Turns (fun k => k = f ∨ k = b ∨ inRowV ch k) w w' ∧ ∀ k, inRowV ch' k → inRowV ch k ∨ w.heap.size ≤ k := by
  have hlk := fun m => Dir.look' (w := w.drewN m) hd name hs
  rw [hg] at hlk
  simp only [ptrOf] at hlk
  have h2 : w.cell? ⟨f, 1, none⟩ = some (.map (some b)) := cell_of_row w f 1 _ 72 (0, 0) h
  have H := hide h
  have HD := hide hd
  have HL := hide hl
  clear hd hg h hl
  go_enter Tryz.func61, Tryz.ntmps61
  go_wp2_with fail
  go_quiet (fail)
  go_wp2_with fail
  have hfw := lt_of_heap H.out
  have t1 : Turns (fun _ => False) w ((w.drewN nq).alloc (.cells #[.slice none 0 0, .int .i64 0] 99)) := ((Turns.refl _ w).drewN nq).alloc _
  have hx : ((w.drewN nq).alloc (.cells #[.slice none 0 0, .int .i64 0] 99)).heap[w.heap.size]? = some (.cells #[.slice none 0 0, .int .i64 0] 99 (0, 0)) := heap_alloc_new (w.drewN nq) _
  have hd1 : Dir ((w.drewN nq).alloc (.cells #[.slice none 0 0, .int .i64 0] 99)) b n D := HD.out.keep t1 (fun x => x)
  have hl1 : Chs ((w.drewN nq).alloc (.cells #[.slice none 0 0, .int .i64 0] 99)) ch l := HL.out.keep t1 (fun _ _ x => x)
  have hrow : ∀ k, inRowV ch k → k < w.heap.size := fun k hk => by
    obtain ⟨cs, hc⟩ := HL.out.row hk
    exact lt_of_heap hc
  refine (change_any f b n D l ⟨⟨#[]⟩, name, some w.heap.size⟩ limit used lost ops fuse fault fail on sy ch _ (t1.heap H.out (fun x => x)) hd1 hl1 hn hlen (by show (⟨#[]⟩ : ByteArray).size ≤ maxLen; decide) hs).mono ?_
  rintro e w2 ⟨⟨v, rfl⟩, ch', k1, k2, k3, k4, k5⟩
  have K1 := hide k1
  have K2 := hide k2
  have K3 := hide k3
  have hbw := HD.out.lt
  have K4 := hide (k4.heap hx (fun hh => by
    rcases hh with e | e | e
    · omega
    · omega
    · have := hrow _ e; omega))
  have K5 := hide ((t1.mono fun _ _ x => x.elim).trans k4)
  have K6 : Hid (∀ k, inRowV ch' k → inRowV ch k ∨ w.heap.size ≤ k) := fun k hk => (k5 k hk).imp id fun hle => Nat.le_trans t1.size hle
  clear k1 k2 k3 k4 k5 t1 hx hd1 hl1 hrow
  go_wp2_with fail
  go_ret
  exact ⟨rfl, ch', K1.out, K4.out, K2.out, K3.out, K5.out, K6.out⟩

theorem enters61 (caps : Array Value) (w : World) : (callFunc 61 caps).run Tryz.prog w = .ok (.enter 61 caps) w := by kernel_rfl

set_option maxRecDepth 100000 in
set_option maxHeartbeats 4000000 in
/-- Create goes through the guard with the name's test and its own closure. -/
theorem create_via (p : Option Addr) (name : ByteArray) (w : World) (R : Ending → World → Prop)
    (HR : ∀ w1 pf pn, Turns (fun _ => False) w w1 → w1.cell? ⟨pf, 0, none⟩ = some (.pointer p) → w1.cell? ⟨pn, 0, none⟩ = some (.string name) → w.heap.size ≤ pf → w.heap.size ≤ pn → Calls Tryz.prog 59 #[.pointer p, .bool (goodN name), .func (.func 61) #[] #[.pointer (some ⟨pf, 0, none⟩), .pointer (some ⟨pn, 0, none⟩)]] w1 fun e w' => ∃ z : Int, e = .returned (.int .i64 z) ∧ R (.returned (.int .i64 z)) w' ∧ Turns (fun k => k < w.heap.size) w1 w') :
    Calls Tryz.prog 36 #[.pointer p, .string name] w R := by
  have hmf : ∀ (fn : Fn) (first cap : Array Value) (w : World), (Instr.makeFunc fn first cap).run Tryz.prog w = .ok (.func fn first cap) w := fun _ _ _ _ => rfl
  have HRR := hide HR
  clear HR
  go_enter Tryz.func36, Tryz.ntmps36
  go_wp2_with fail
  have hT : Turns (fun _ => False) w ((w.alloc (.cells #[.pointer p] 26)).alloc (.cells #[.string name] 9)) := ((Turns.refl _ w).alloc _).alloc _
  have x0 : ((w.alloc (.cells #[.pointer p] 26)).alloc (.cells #[.string name] 9)).cell? ⟨w.heap.size, 0, none⟩ = some (.pointer p) := cell_of_row _ _ 0 _ 26 (0, 0) ((heap_alloc_old _ _ (by simp)).trans (heap_alloc_new w _))
  have x1 : ((w.alloc (.cells #[.pointer p] 26)).alloc (.cells #[.string name] 9)).cell? ⟨w.heap.size + 1, 0, none⟩ = some (.string name) := cell_of_row _ _ 0 _ 9 (0, 0) (heap_alloc2_new w _ _)
  have HT := hide hT
  clear hT
  generalize (w.alloc (.cells #[.pointer p] 26)).alloc (.cells #[.string name] 9) = w1 at *
  generalize hpf : w.heap.size = pf at *
  have hle : pf ≤ pf + 1 := Nat.le_succ _
  go_region_held (fun w' => w'.cell? ⟨pf, 0, none⟩ = some (.pointer p) ∧ w'.cell? ⟨pf + 1, 0, none⟩ = some (.string name)) (first | (with_reducible exact ⟨f0, f1⟩) | (simp only [World.cell?_drew]; with_reducible exact ⟨x0, x1⟩)) (first
    | (go_at_call 60; refine (name_any name _).mono ?_; rintro e w2 ⟨rfl, rfl⟩)
    | (go_at_call 59; refine (HRR.out _ pf (pf + 1) HT.out.drew x0 x1 (Nat.le_refl _) hle).mono ?_; rintro e w3 ⟨z, rfl, hz, ht⟩; have HZ := hide hz; have f0 := ht.cell (a := w1.drew) x0 (Nat.lt_irrefl _); have f1 := ht.cell (a := w1.drew) x1 (Nat.not_lt.2 hle); clear hz ht))
  all_goals go_wp2_with fail
  all_goals exact HZ.out
end Go.Proofs.YtjklbhdhjfifhaaGreat

/-
  New: a file system without files.
-/
namespace Go.Proofs.YtjklbhdhjfifhaaGreat
open Go.RowKit Go.Maps

set_option maxRecDepth 100000 in
set_option maxHeartbeats 1000000 in
theorem new_good (limit : Int) (w : World) (h1 : 0 ≤ limit) (h2 : limit ≤ 1073741824) :
    Calls Tryz.prog 35 #[.int .i64 limit] w fun e w' => e = .returned (.tuple #[.pointer (some ⟨w.heap.size + 2, 0, none⟩), .int .i64 0]) ∧
      w'.heap[w.heap.size + 2]? = some (.cells (fsCells limit (.map (some w.heap.size)) (.map (some (w.heap.size + 1))) (.slice none 0 0) 0 0 true 0 (-1) (-1) 0) 72 (0, 0)) ∧ Dir w' w.heap.size 0 (.map []) ∧ Dir w' (w.heap.size + 1) 0 (.map []) ∧ Below w.heap.size w w' := by
  have hmm := @run_makeMap Tryz.prog
  have g1 : ¬ limit < 0 := by omega
  have g2 : ¬ (1073741824 : Int) < limit := by omega
  have d0 := World.ownsMap_made w Tryz.prog 9 ptrR
  have d1 := World.ownsMap_made (w.alloc (.map #[] 0)) Tryz.prog 9 ptrR
  have e1 : (w.alloc (.map #[] 0)).heap.size = w.heap.size + 1 := by simp
  rw [e1] at d1
  have D0 := hide (World.ownsMap.alloc (World.ownsMap.alloc d0 (.map #[] 0)) (.cells (fsCells limit (.map (some w.heap.size)) (.map (some (w.heap.size + 1))) (.slice none 0 0) 0 0 true 0 (-1) (-1) 0) 72))
  have D1 := hide (World.ownsMap.alloc d1 (.cells (fsCells limit (.map (some w.heap.size)) (.map (some (w.heap.size + 1))) (.slice none 0 0) 0 0 true 0 (-1) (-1) 0) 72))
  have B0 : Hid (Below w.heap.size w (((w.alloc (.map #[] 0)).alloc (.map #[] 0)).alloc (.cells (fsCells limit (.map (some w.heap.size)) (.map (some (w.heap.size + 1))) (.slice none 0 0) 0 0 true 0 (-1) (-1) 0) 72))) := (((Below.refl _ _).alloc (Nat.le_refl _) _).alloc (by simp) _).alloc (by simp; omega) _
  have N0 : Hid ((((w.alloc (.map #[] 0)).alloc (.map #[] 0)).alloc (.cells (fsCells limit (.map (some w.heap.size)) (.map (some (w.heap.size + 1))) (.slice none 0 0) 0 0 true 0 (-1) (-1) 0) 72)).heap[w.heap.size + 2]? = some (.cells (fsCells limit (.map (some w.heap.size)) (.map (some (w.heap.size + 1))) (.slice none 0 0) 0 0 true 0 (-1) (-1) 0) 72 (0, 0))) := by
    have := heap_alloc_new ((w.alloc (.map #[] 0)).alloc (.map #[] 0)) (.cells (fsCells limit (.map (some w.heap.size)) (.map (some (w.heap.size + 1))) (.slice none 0 0) 0 0 true 0 (-1) (-1) 0) 72)
    rwa [show ((w.alloc (.map #[] 0)).alloc (.map #[] 0)).heap.size = w.heap.size + 2 by simp] at this
  clear d0 d1 e1
  go_enter Tryz.func35, Tryz.ntmps35
  go_wp2_with fail
  go_ret2
  exact ⟨rfl, N0.out, D0.out, D1.out, B0.out⟩
end Go.Proofs.YtjklbhdhjfifhaaGreat

/-
  The first changes become part of the synced directory, and the others are forgotten.
-/
namespace Go.Proofs.YtjklbhdhjfifhaaGreat
open Go.RowKit Go.Maps

theorem wrapIV (z : Int) (h1 : -9223372036854775808 ≤ z) (h2 : z ≤ 9223372036854775807) : IntKind.i64.wrap z = z := by
  simp [IntKind.wrap, IntKind.bits, IntKind.signed]
  omega

theorem Chs.len {w : World} {v : Value} {l : List Chg} (h : Chs w v l) : ∃ a c, v = .slice a l.length c := by
  rcases h with ⟨rfl, rfl⟩ | ⟨g, c, n, rfl, rfl, _⟩
  · exact ⟨_, _, rfl⟩
  · exact ⟨_, _, rfl⟩

end Go.Proofs.YtjklbhdhjfifhaaGreat

/-
  What is done to the file of a name, and SyncDir, through the guard.
-/
namespace Go.Proofs.YtjklbhdhjfifhaaGreat
open Go.RowKit Go.Maps

theorem makeF : ∀ (fn : Fn) (first cap : Array Value) (w : World), (Instr.makeFunc fn first cap).run Tryz.prog w = .ok (.func fn first cap) w := fun _ _ _ _ => rfl
theorem enters105 (caps : Array Value) (w : World) : (callFunc 105 caps).run Tryz.prog w = .ok (.enter 105 caps) w := by kernel_rfl

set_option maxRecDepth 100000 in
set_option maxHeartbeats 1000000 in
/-- onFile answers a closure over three variables of its own. -/
theorem onFile_any (p : Option Addr) (name : ByteArray) (M : Nat) (caps : Array Value) (w : World) :
    Calls Tryz.prog 63 #[.pointer p, .string name, .func (.func M) #[] caps] w fun e w' => e = .returned (.func (.func 105) #[] #[.pointer (some ⟨w.heap.size, 0, none⟩), .pointer (some ⟨w.heap.size + 1, 0, none⟩), .pointer (some ⟨w.heap.size + 2, 0, none⟩)]) ∧
      w'.cell? ⟨w.heap.size, 0, none⟩ = some (.pointer p) ∧ w'.cell? ⟨w.heap.size + 1, 0, none⟩ = some (.string name) ∧ w'.cell? ⟨w.heap.size + 2, 0, none⟩ = some (.func (.func M) #[] caps) ∧ Turns (fun _ => False) w w' := by
  have hmf := makeF
  have hT : Turns (fun _ => False) w (((w.alloc (.cells #[.pointer p] 26)).alloc (.cells #[.string name] 9)).alloc (.cells #[.func (.func M) #[] caps] 114)) := (((Turns.refl _ w).alloc _).alloc _).alloc _
  have x0 : (((w.alloc (.cells #[.pointer p] 26)).alloc (.cells #[.string name] 9)).alloc (.cells #[.func (.func M) #[] caps] 114)).cell? ⟨w.heap.size, 0, none⟩ = some (.pointer p) := cell_of_row _ _ 0 _ 26 (0, 0) ((heap_alloc_old _ _ (by simp; omega)).trans ((heap_alloc_old _ _ (by simp)).trans (heap_alloc_new w _)))
  have x1 : (((w.alloc (.cells #[.pointer p] 26)).alloc (.cells #[.string name] 9)).alloc (.cells #[.func (.func M) #[] caps] 114)).cell? ⟨w.heap.size + 1, 0, none⟩ = some (.string name) := cell_of_row _ _ 0 _ 9 (0, 0) ((heap_alloc_old _ _ (by simp)).trans (heap_alloc2_new w _ _))
  have x2 : (((w.alloc (.cells #[.pointer p] 26)).alloc (.cells #[.string name] 9)).alloc (.cells #[.func (.func M) #[] caps] 114)).cell? ⟨w.heap.size + 2, 0, none⟩ = some (.func (.func M) #[] caps) := by
    have := heap_alloc_new ((w.alloc (.cells #[.pointer p] 26)).alloc (.cells #[.string name] 9)) (.cells #[.func (.func M) #[] caps] 114)
    rw [show ((w.alloc (.cells #[.pointer p] 26)).alloc (.cells #[.string name] 9)).heap.size = w.heap.size + 2 by simp] at this
    exact cell_of_row _ _ 0 _ 114 (0, 0) this
  have FIN := hide (And.intro x0 (And.intro x1 (And.intro x2 hT)))
  clear x0 x1 x2 hT
  go_enter Tryz.func63, Tryz.ntmps63
  go_wp2_with fail
  go_ret
  exact ⟨rfl, FIN.out⟩

set_option maxRecDepth 100000 in
set_option maxHeartbeats 1000000 in
theorem onFile1_none (f b n pf pn pd : Nat) (D : DataW Unit) (name : ByteArray) (w : World) (h0 : w.cell? ⟨pf, 0, none⟩ = some (.pointer (some ⟨f, 0, none⟩))) (h1 : w.cell? ⟨pn, 0, none⟩ = some (.string name)) (h2 : w.cell? ⟨f, 1, none⟩ = some (.map (some b))) (hd : Dir w b n D) (hs : name.size ≤ maxLen) (hg : fileOf D name = none) :
    Calls Tryz.prog 105 #[.pointer (some ⟨pf, 0, none⟩), .pointer (some ⟨pn, 0, none⟩), .pointer (some ⟨pd, 0, none⟩)] w fun e w' => e = .returned (.int .i64 6) ∧ ∃ m, w' = w.drewN m := by
  have hl := fun m => Dir.look' (w := w.drewN m) hd name hs
  rw [hg] at hl
  simp only [ptrOf] at hl
  clear hd hg
  go_enter Tryz.func105, Tryz.ntmps105
  go_wp2_with fail
  go_quiet (fail)
  go_wp2_with fail
  go_ret
  exact ⟨rfl, _, rfl⟩

set_option maxRecDepth 100000 in
set_option maxHeartbeats 1000000 in
theorem onFile1_some (f b n pf pn pd g M : Nat) (caps : Array Value) (D : DataW Unit) (name : ByteArray) (w : World) (hent : ∀ w, (callFunc M (#[.pointer (some ⟨g, 0, none⟩)] ++ caps)).run Tryz.prog w = .ok (.enter M (#[.pointer (some ⟨g, 0, none⟩)] ++ caps)) w) (h0 : w.cell? ⟨pf, 0, none⟩ = some (.pointer (some ⟨f, 0, none⟩))) (h1 : w.cell? ⟨pn, 0, none⟩ = some (.string name)) (h2 : w.cell? ⟨f, 1, none⟩ = some (.map (some b)))
    (h3 : w.cell? ⟨pd, 0, none⟩ = some (.func (.func M) #[] caps)) (hd : Dir w b n D) (hs : name.size ≤ maxLen) (hg : fileOf D name = some g) (R : Ending → World → Prop)
    (HR : ∀ m, Calls Tryz.prog M (#[.pointer (some ⟨g, 0, none⟩)] ++ caps) (w.drewN m) fun e w' => ∃ z : Int, e = .returned (.int .i64 z) ∧ R (.returned (.int .i64 z)) w') :
    Calls Tryz.prog 105 #[.pointer (some ⟨pf, 0, none⟩), .pointer (some ⟨pn, 0, none⟩), .pointer (some ⟨pd, 0, none⟩)] w R := by
  have hl := fun m => Dir.look' (w := w.drewN m) hd name hs
  rw [hg] at hl
  simp only [ptrOf] at hl
  have HRR := hide HR
  clear hd hg HR
  go_enter Tryz.func105, Tryz.ntmps105
  go_wp2_with fail
  go_quiet (fail)
  go_wp2_with fail
  refine (HRR.out nq).mono ?_
  rintro e w2 ⟨z, rfl, hz⟩
  have HZ := hide hz
  clear hz
  go_wp2_with fail
  exact HZ.out

set_option maxRecDepth 100000 in
set_option maxHeartbeats 1000000 in
theorem sync_any (g n : Nat) (s0 : Int) (a : Option Addr) (c : Nat) (w : World) (h : w.heap[g]? = some (.cells #[.slice a n c, .int .i64 s0] 99 (0, 0))) :
    Calls Tryz.prog 93 #[.pointer (some ⟨g, 0, none⟩)] w fun e w' => (∃ v, e = .returned v) ∧ TickV w w' g 99 #[.slice a n c, .int .i64 (n : Nat)] := by
  have c0 : w.cell? ⟨g, 0, none⟩ = some (.slice a n c) := cell_of_row w g 0 _ 99 (0, 0) h
  have c1 : w.cell? ⟨g, 1, none⟩ = some (.int .i64 s0) := cell_of_row w g 1 _ 99 (0, 0) h
  have z1 : w.frozen? ⟨g, 1, none⟩ = false := frozen_of_row w g 1 _ 99 h
  have T := hide ((TickV.refl h).set 1 (.int .i64 (n : Nat)))
  clear h
  go_enter Tryz.func93, Tryz.ntmps93
  go_wp2_with fail
  go_end0
  exact ⟨⟨_, rfl⟩, T.out⟩
set_option maxRecDepth 100000 in
set_option maxHeartbeats 1000000 in
theorem sync1_any (g n : Nat) (s0 : Int) (a : Option Addr) (c : Nat) (w : World) (h : w.heap[g]? = some (.cells #[.slice a n c, .int .i64 s0] 99 (0, 0))) :
    Calls Tryz.prog 92 #[.pointer (some ⟨g, 0, none⟩)] w fun e w' => e = .returned (.int .i64 0) ∧ TickV w w' g 99 #[.slice a n c, .int .i64 (n : Nat)] := by
  have H := hide h
  clear h
  go_enter Tryz.func92, Tryz.ntmps92
  go_wp2_with fail
  refine (sync_any g n s0 a c _ H.out).mono ?_
  rintro e w1 ⟨⟨v, rfl⟩, t⟩
  have T := hide t
  clear t
  go_wp2_with fail
  go_ret
  exact ⟨rfl, T.out⟩
end Go.Proofs.YtjklbhdhjfifhaaGreat

/-
  Append: bytes behind a file's bytes, if there is room.
-/
namespace Go.Proofs.YtjklbhdhjfifhaaGreat
open Go.RowKit Go.Maps

/-- Bytes in a row of one's own, or none. -/
def OwnB (w : World) (v : Value) (bs : List (BitVec 8)) : Prop :=
  (bs = [] ∧ v = .slice none 0 0) ∨ ∃ (g c n : Nat), v = .slice (some ⟨g, 0, none⟩) n c ∧ n = bs.length ∧ n ≤ c ∧ RowB w g c bs
theorem OwnB.keep {S : Nat → Prop} {w w' : World} {v : Value} {bs : List (BitVec 8)} (h : OwnB w v bs) (ht : Turns S w w') (hn : ∀ k, inRowV v k → ¬ S k) : OwnB w' v bs := by
  rcases h with h | ⟨g, c, n, h1, h2, h4, cs, h5, h6, h7⟩
  · exact .inl h
  · exact .inr ⟨g, c, n, h1, h2, h4, cs, ht.heap h5 (hn g ⟨n, c, h1⟩), h6, h7⟩
theorem OwnB.row {w : World} {v : Value} {bs : List (BitVec 8)} (h : OwnB w v bs) {k : Nat} (hk : inRowV v k) : ∃ cs, w.heap[k]? = some (.cells cs 5 (0, 0)) := by
  obtain ⟨n', c', e⟩ := hk
  rcases h with ⟨_, h⟩ | ⟨g, c, n, h1, h2, h4, cs, h5, h6, h7⟩
  · rw [h] at e; cases e
  · rw [h1] at e; cases e; exact ⟨cs, h5⟩
theorem OwnB.bytes {w : World} {v : Value} {bs : List (BitVec 8)} (h : OwnB w v bs) : Bytes w v bs := by
  rcases h with ⟨rfl, rfl⟩ | ⟨g, c, n, rfl, rfl, _, h⟩
  · exact Bytes.empty w
  · exact RowB.bytes h rfl

/-- What append answers, onto bytes of one's own. -/
theorem append_own (w : World) (v : Value) (bs : List (BitVec 8)) (h : OwnB w v bs) (x : Value) (news : List (BitVec 8)) (hx : Bytes w x news) (hpos : 0 < news.length ∨ v ≠ .slice none 0 0) (hsm : bs.length + news.length ≤ 140737488355328) :
    ∃ (g' n' c' : Nat) (w' : World), (∀ ty, (Builtin.append_ #[28, 28] ty #[v, x]).run Tryz.prog w = .ok (.slice (some ⟨g', 0, none⟩) n' c') w') ∧ OwnB w' (.slice (some ⟨g', 0, none⟩) n' c') (bs ++ news) ∧ Turns (inRowV v) w w' ∧ ∀ k, inRowV (.slice (some ⟨g', 0, none⟩) n' c') k → inRowV v k ∨ w.heap.size ≤ k := by
  obtain ⟨base, sLen, sCap, rfl, hsl, hbase⟩ : ∃ (base : Option Addr) (sLen sCap : Nat), v = .slice base sLen sCap ∧ sLen = bs.length ∧ ((base = none ∧ sLen = 0 ∧ sCap = 0 ∧ 0 < news.length) ∨ ∃ g, base = some ⟨g, 0, none⟩ ∧ 0 ≤ g ∧ sLen ≤ sCap ∧ RowB w g sCap bs) := by
    rcases h with ⟨rfl, rfl⟩ | ⟨g, c, n, rfl, rfl, h4, h5⟩
    · refine ⟨none, 0, 0, rfl, rfl, .inl ⟨rfl, rfl, rfl, ?_⟩⟩
      rcases hpos with h | h
      · exact h
      · exact absurd rfl h
    · exact ⟨_, _, _, rfl, rfl, .inr ⟨g, rfl, Nat.zero_le _, h4, h5⟩⟩
  obtain ⟨g, cp, w', hr, hg, hrow, hb, hcp, hin, hout, hkeep⟩ := append_bytes2 w 0 base sLen sCap bs hsl x news news.length rfl hx (Nat.zero_le _) hbase (by omega)
  refine ⟨g, _, cp, w', hr, .inr ⟨g, cp, _, rfl, by simp [hsl], hcp, hrow⟩, ⟨hb.os, hb.tape, hb.output, hb.size, fun k hk hn => hkeep k hk fun e => hn ⟨sLen, sCap, by rw [e]⟩⟩, fun k hk => ?_⟩
  obtain ⟨n', c', e⟩ := hk
  cases e
  rcases Nat.lt_or_ge sCap (sLen + news.length) with hc | hc
  · exact .inr (by rw [hout hc]; exact Nat.le_refl _)
  · exact .inl ⟨sLen, sCap, by rw [(hin hc).1]⟩

set_option maxRecDepth 100000 in
set_option maxHeartbeats 1000000 in
theorem append1_full (f pf pb : Nat) (x : Value) (n : Nat) (a : Option Addr) (c : Nat) (limit used : Int) (w : World) (h0 : w.cell? ⟨pf, 0, none⟩ = some (.pointer (some ⟨f, 0, none⟩))) (h1 : w.cell? ⟨pb, 0, none⟩ = some (.slice a n c))
    (h2 : w.cell? ⟨f, 0, none⟩ = some (.int .i64 limit)) (h3 : w.cell? ⟨f, 4, none⟩ = some (.int .i64 used)) (hl : 0 ≤ used ∧ used ≤ limit ∧ limit ≤ 1073741824) (hf : limit - used < (n : Int)) :
    Calls Tryz.prog 64 #[x, .pointer (some ⟨pb, 0, none⟩), .pointer (some ⟨pf, 0, none⟩)] w fun e w' => e = .returned (.int .i64 7) ∧ ∃ m, w' = w.drewN m := by
  go_enter Tryz.func64, Tryz.ntmps64
  go_wp2_with fail
  go_quiet (fail)
  go_wp2_with fail
  go_ret
  exact ⟨rfl, _, rfl⟩

end Go.Proofs.YtjklbhdhjfifhaaGreat

/-
  Reading a file, and its crash.
-/
namespace Go.Proofs.YtjklbhdhjfifhaaGreat
open Go.RowKit Go.Maps

theorem eqnilV (a : Addr) (n c : Nat) (w : World) : (binOp .eql 28 (.slice (some a) n c) (.slice none 0 0)).run Tryz.prog w = .ok (.bool false) w := by kernel_rfl
theorem nilnil (w : World) : (binOp .eql 28 (.slice none 0 0) (.slice none 0 0)).run Tryz.prog w = .ok (.bool true) w := by kernel_rfl
set_option maxHeartbeats 400000 in
theorem clone_some (a : Addr) (n c0 : Nat) (bs : List (BitVec 8)) (hn0 : n = bs.length) (w : World) (h : Bytes w (.slice (some a) n c0) bs) (hn : bs.length ≤ 140737488355328) :
    Calls Tryz.prog 47 #[.slice (some a) n c0] w fun e w' => ∃ g c, e = .returned (.slice (some ⟨g, 0, none⟩) n c) ∧ w.heap.size ≤ g ∧ n ≤ c ∧ RowB w' g c bs ∧ Below w.heap.size w w' := by
  have hb : Below w.heap.size w (w.alloc (.cells #[] 5)) := (Below.refl _ _).alloc (Nat.le_refl _) _
  obtain ⟨g, c, w2, hr, hg, hrow, hb2, hc, _⟩ := append_bytes2 (w.alloc (.cells #[] 5)) w.heap.size (some ⟨w.heap.size, 0, none⟩) 0 0 [] rfl (.slice (some a) n c0) bs n hn0 (h.below hb) (by simp)
    (.inr ⟨_, rfl, Nat.le_refl _, Nat.le_refl _, #[], heap_alloc_new w _, Nat.le_refl _, fun k hk => by simp [cellsOf] at hk⟩) (by omega)
  rw [Nat.zero_add] at hr hc
  rw [List.nil_append] at hrow
  have HR := hide hr
  have HW := hide hrow
  have HB := hide (hb.trans hb2)
  clear hr hrow hb hb2 h hn0
  have hnil := eqnilV a n c0
  go_enter Tryz.func47, Tryz.ntmps47
  go_wp2_with (at_builtin; refine wpList_append_run rfl _ _ 28 rfl _ _ rfl rfl _ _ (HR.out _) ?_)
  go_ret
  exact ⟨g, c, rfl, hg, hc, HW.out, HB.out⟩
set_option maxHeartbeats 400000 in
theorem clone_nil (w : World) :
    Calls Tryz.prog 47 #[.slice none 0 0] w fun e w' => e = .returned (.slice none 0 0) ∧ w' = w := by
  have hnil := nilnil
  go_enter Tryz.func47, Tryz.ntmps47
  go_wp2_with fail
  go_ret
  exact ⟨rfl, rfl⟩

/-- What Read answers of a file's bytes. -/
def readOf (bs : List (BitVec 8)) (at' n : Nat) : List (BitVec 8) := (bs.drop at').take n

set_option maxRecDepth 100000 in
set_option maxHeartbeats 4000000 in
theorem read_in (g k c L : Nat) (s0 : Int) (bs : List (BitVec 8)) (at' n : Nat) (w : World) (h : w.heap[g]? = some (.cells #[.slice (some ⟨k, 0, none⟩) L c, .int .i64 s0] 99 (0, 0))) (hL : L = bs.length) (hrow : RowB w k c bs) (hc : L ≤ c) (hL2 : L ≤ 1073741824) (h1 : at' ≤ 9223372036854775807) (h2 : n ≤ 9223372036854775807) (ha : at' < L) :
    Calls Tryz.prog 224 #[.pointer (some ⟨g, 0, none⟩), .int .i64 (at' : Nat), .int .i64 (n : Nat)] w fun e w' => ∃ q m cq, e = .returned (.slice (some ⟨q, 0, none⟩) m cq) ∧ m = (readOf bs at' n).length ∧ w.heap.size ≤ q ∧ m ≤ cq ∧ RowB w' q cq (readOf bs at' n) ∧ Below w.heap.size w w' := by
  have c0 : w.cell? ⟨g, 0, none⟩ = some (.slice (some ⟨k, 0, none⟩) L c) := cell_of_row w g 0 _ 99 (0, 0) h
  have HR := hide hrow
  have HL := hide hL
  clear h hrow hL
  have g1 : (at' : Int) < (L : Int) := by omega
  go_enter Tryz.func224, Tryz.ntmps224
  go_wp2_with fail
  go_quiet (fail)
  go_wp2_with fail
  · have hcase : L - at' ≤ n := by omega
    refine (clone_some _ _ _ (readOf bs at' n) (by unfold readOf; rw [List.length_take, List.length_drop]; have := HL.out; omega) (w.drewN nq) (by
      have := (RowB.bytes (w := w.drewN nq) (c' := c) HR.out HL.out).part at' (L - at') (c - at') (by have := HL.out; omega)
      rw [Nat.zero_add] at this
      unfold readOf
      rw [List.take_of_length_le (by rw [List.length_drop]; have := HL.out; omega)] at this ⊢
      exact this) (by unfold readOf; rw [List.length_take, List.length_drop]; have := HL.out; omega)).mono ?_
    rintro e w2 ⟨q, cq, rfl, hq, hcq, hr, hb⟩
    have R2 := hide hr
    have B2 : Hid (Below w.heap.size w w2) := (below_drewN (Below.refl _ _) nq).trans hb
    clear hr hb
    go_wp2_with fail
    go_ret
    exact ⟨q, _, cq, rfl, by unfold readOf; rw [List.length_take, List.length_drop]; have := HL.out; omega, hq, hcq, R2.out, B2.out⟩
  · have hcase : n ≤ L - at' := by omega
    refine (clone_some _ _ _ (readOf bs at' n) (by unfold readOf; rw [List.length_take, List.length_drop]; have := HL.out; omega) (w.drewN nq) (by
      have := (RowB.bytes (w := w.drewN nq) (c' := c) HR.out HL.out).part at' n (c - at') (by have := HL.out; omega)
      rw [Nat.zero_add] at this
      exact this) (by unfold readOf; rw [List.length_take, List.length_drop]; have := HL.out; omega)).mono ?_
    rintro e w2 ⟨q, cq, rfl, hq, hcq, hr, hb⟩
    have R2 := hide hr
    have B2 : Hid (Below w.heap.size w w2) := (below_drewN (Below.refl _ _) nq).trans hb
    clear hr hb
    go_wp2_with fail
    go_ret
    exact ⟨q, _, cq, rfl, by unfold readOf; rw [List.length_take, List.length_drop]; have := HL.out; omega, hq, hcq, R2.out, B2.out⟩
end Go.Proofs.YtjklbhdhjfifhaaGreat
