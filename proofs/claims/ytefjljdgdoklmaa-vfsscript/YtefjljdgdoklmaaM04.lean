import Derived.Test.YtefjljdgdoklmaaM03
import Derived.Deep.RegionLaw
/-
  A change of the directory: it is applied, and kept behind the others.
-/
namespace Go.Proofs.Ytefjljdgdoklmaa
open Go.RowKit Go.Maps

theorem step_append_run {P : Program} {ops : Array Oper} {o : Oper} {a : Act} {w : World} {K : Act → World → Prop} {Q : Exit → Act → World → Prop} {E : Prop} (hgd : o.guard = none) (s x : Operand) (t : TypeId)
    (ho : o.op = .call { callee := .builtin .append, args := #[s, x], argTypes := #[t, t] }) (vs vx : Value) (hs : a.eval s = vs) (hx : a.eval x = vx) (v : Value) (w' : World)
    (hr : (Builtin.append_ #[t, t] o.type #[vs, vx]).run P w = .ok v w') (d : Nat) (hd : o.dst = some d) (h : K (a.put (some d) v) w') :
    if Region.wanted o (yielded ops a.tmps) = true then Oper.wp P o a w K Q else E := by
  have hw : Region.wanted o (yielded ops a.tmps) = true := by simp [Region.wanted, hgd]
  rw [if_pos hw]
  unfold Oper.wp execOp
  simp only [ho, resolve, invoke, builtin, Sem.run_bind, Sem.run_pure, Result.andThen_ok, List.map_toArray, List.map_cons, List.map_nil, hs, hx, hr]
  show K (a.put o.dst v) w'
  rw [hd]
  exact h

theorem Turns.setCell {S : Nat → Prop} {a w : World} (h : Turns S a w) {p : Addr} (hp : S p.block) (v : Value) : Turns S a (w.setCell p v) :=
  h.trans ⟨rfl, rfl, rfl, by simp, fun k _ hn => heap_setCell_other w p k v fun e => hn (by rw [e]; exact hp)⟩

/-- The cells of changes. -/
def chCells (l : List Chg) : List Value := l.flatMap fun c => [.string c.went, .string c.became, ptrOf c.file]
theorem chCells_length (l : List Chg) : (chCells l).length = l.length * 3 := by
  induction l with
  | nil => rfl
  | cons c r ih => simp only [chCells, List.flatMap_cons, List.length_append, List.length_cons, List.length_nil] at ih ⊢; omega
theorem chCells_snoc (l : List Chg) (c : Chg) : chCells (l ++ [c]) = chCells l ++ [.string c.went, .string c.became, ptrOf c.file] := by simp [chCells]
/-- The block that a slice of one's own lies in. -/
def inRow (v : Value) (k : Nat) : Prop := ∃ n c, v = .slice (some ⟨k, 0, none⟩) n c
/-- Changes in a list of one's own, or none. -/
def Chs (w : World) (v : Value) (l : List Chg) : Prop :=
  (l = [] ∧ v = .slice none 0 0) ∨ ∃ (g c n : Nat), v = .slice (some ⟨g, 0, none⟩) n c ∧ n = l.length ∧ 0 < n ∧ n ≤ c ∧ RowC w g 72 (c * 3) (chCells l)
theorem Chs.keep {S : Nat → Prop} {w w' : World} {v : Value} {l : List Chg} (h : Chs w v l) (ht : Turns S w w') (hn : ∀ k, inRow v k → ¬ S k) : Chs w' v l := by
  rcases h with h | ⟨g, c, n, h1, h2, h3, h4, cs, h5, h6, h7⟩
  · exact .inl h
  · exact .inr ⟨g, c, n, h1, h2, h3, h4, cs, ht.heap h5 (hn g ⟨n, c, h1⟩), h6, h7⟩
theorem Chs.row {w : World} {v : Value} {l : List Chg} (h : Chs w v l) {k : Nat} (hk : inRow v k) : ∃ cs, w.heap[k]? = some (.cells cs 72 (0, 0)) := by
  obtain ⟨n', c', e⟩ := hk
  rcases h with ⟨_, h⟩ | ⟨g, c, n, h1, h2, h3, h4, cs, h5, h6, h7⟩
  · rw [h] at e; cases e
  · rw [h1] at e; cases e; exact ⟨cs, h5⟩

theorem t72_size : Try.t72.size = 3 := by kernel_rfl
theorem t72_bytes : Try.t72.bytes = 40 := by kernel_rfl
theorem t72_info : Try.prog.info? 72 = some Try.t72 := by kernel_rfl
theorem t72_zero : Try.t72.zero = some (.agg #[.string ⟨#[]⟩, .string ⟨#[]⟩, .pointer none]) := by kernel_rfl

/-- One change that is appended. -/
theorem append_chg (w : World) (v : Value) (l : List Chg) (h : Chs w v l) (hlen : l.length ≤ 1000000000) (x : Chg) (a : Addr) (c : Nat) (ha : ∀ j u, [Value.string x.went, .string x.became, ptrOf x.file][j]? = some u → w.cell? (a.add j) = some u) :
    ∃ (g' n' c' : Nat) (w' : World), (∀ ty, (Builtin.append_ #[54, 54] ty #[v, .slice (some a) 1 c]).run Try.prog w = .ok (.slice (some ⟨g', 0, none⟩) n' c') w') ∧ Chs w' (.slice (some ⟨g', 0, none⟩) n' c') (l ++ [x]) ∧ Turns (inRow v) w w' ∧ ∀ k, inRow (.slice (some ⟨g', 0, none⟩) n' c') k → inRow v k ∨ w.heap.size ≤ k := by
  have hsrc : Src Try.prog Try.t72.size 54 (.slice (some a) 1 c) 1 [.string x.went, .string x.became, ptrOf x.file] w := Src.ofSlice w Try.underlying54 a 1 c _ (by rw [t72_size]; rfl) ha (fun u hu => by
    simp only [List.mem_cons, List.not_mem_nil, or_false] at hu
    rcases hu with rfl | rfl | rfl
    · rfl
    · rfl
    · cases x.file <;> rfl)
  obtain ⟨base, sLen, sCap, rfl, hsl, hbase⟩ : ∃ (base : Option Addr) (sLen sCap : Nat), v = .slice base sLen sCap ∧ sLen = l.length ∧ ((base = none ∧ sLen = 0 ∧ sCap = 0 ∧ 0 < 1) ∨ ∃ g, base = some ⟨g, 0, none⟩ ∧ 0 ≤ g ∧ sLen ≤ sCap ∧ RowC w g 72 (sCap * Try.t72.size) (chCells l)) := by
    rcases h with ⟨rfl, rfl⟩ | ⟨g, c, n, rfl, rfl, _, h4, h5⟩
    · exact ⟨none, 0, 0, rfl, rfl, .inl ⟨rfl, rfl, rfl, by omega⟩⟩
    · exact ⟨_, _, _, rfl, rfl, .inr ⟨g, rfl, Nat.zero_le _, h4, by rw [t72_size]; exact h5⟩⟩
  obtain ⟨g, cp, w', hr, hg, hrow, hb, hcp, hin, hout, hkeep⟩ := append_gen2 (P := Try.prog) w 0 54 72 Try.t72 _ Try.underlying54 t72_info t72_zero rfl base sLen sCap (chCells l) (by rw [chCells_length, t72_size, hsl]) _ 1 _ hsrc (Nat.zero_le _) hbase (by rw [t72_bytes]; omega) (by omega)
  refine ⟨g, _, cp, w', hr, .inr ⟨g, cp, _, rfl, by simp [hsl], by omega, hcp, ?_⟩, ⟨hb.os, hb.tape, hb.output, hb.size, fun k hk hn => hkeep k hk fun e => hn ⟨sLen, sCap, by rw [e]⟩⟩, fun k hk => ?_⟩
  · rw [t72_size] at hrow
    rw [chCells_snoc]
    exact hrow
  · obtain ⟨n', c', e⟩ := hk
    cases e
    rcases Nat.lt_or_ge sCap (sLen + 1) with hc | hc
    · exact .inr (by rw [hout hc]; exact Nat.le_refl _)
    · exact .inl ⟨sLen, sCap, by rw [(hin hc).1]⟩

theorem Dir.map {w : World} {b n : Nat} {D : DataW Unit} (h : Dir w b n D) : ∃ es clock, w.heap[b]? = some (.map es clock) := by
  obtain ⟨es, clock, hb, _⟩ := h
  exact ⟨es, clock, hb⟩
theorem Dir.ne_cells {w : World} {b n : Nat} {D : DataW Unit} (h : Dir w b n D) {k : Nat} {cs : Array Value} {t : TypeId} {fr : Nat × Nat} (hk : w.heap[k]? = some (.cells cs t fr)) : k ≠ b := by
  obtain ⟨es, clock, hb⟩ := h.map
  intro e
  rw [e, hb] at hk
  cases hk

set_option maxRecDepth 100000 in
set_option maxHeartbeats 4000000 in
theorem change_any (f b n : Nat) (D : DataW Unit) (l : List Chg) (c : Chg) (limit used lost ops fuse fault fail : Int) (on : Bool) (sy ch : Value) (w : World)
    (h : w.heap[f]? = some (.cells (fsCells limit (.map (some b)) sy ch used lost on ops fuse fault fail) 57 (0, 0))) (hd : Dir w b n D) (hl : Chs w ch l) (hn : n < maxLen) (hlen : l.length ≤ 1000000000) (h1 : c.went.size ≤ maxLen) (h2 : c.became.size ≤ maxLen) :
    Calls Try.prog 38 #[.pointer (some ⟨f, 0, none⟩), .agg c.cells] w fun e w' => (∃ v, e = .returned v) ∧ ∃ ch', w'.heap[f]? = some (.cells (fsCells limit (.map (some b)) sy ch' used lost on ops fuse fault fail) 57 (0, 0)) ∧ Dir w' b (n + 1) (applyD D c) ∧ Chs w' ch' (l ++ [c]) ∧
      Turns (fun k => k = f ∨ k = b ∨ inRow ch k) w w' ∧ ∀ k, inRow ch' k → inRow ch k ∨ w.heap.size ≤ k := by
  have hfb : f ≠ b := hd.ne_cells h
  have hfw := lt_of_heap h
  have hrb : ∀ k, inRow ch k → k ≠ b ∧ k ≠ f := fun k hk => by
    obtain ⟨cs, hc⟩ := hl.row hk
    refine ⟨hd.ne_cells hc, fun e => ?_⟩
    rw [e, h] at hc
    cases hc
  obtain ⟨went, became, file⟩ := c
  have T0 : Turns (fun k => k = f ∨ k = b ∨ inRow ch k) w (w.alloc (.cells #[.string went, .string became, ptrOf file] 72)) := (Turns.refl _ w).alloc _
  have hnew := heap_alloc_new w (.cells #[.string went, .string became, ptrOf file] 72)
  have hf0 := (heap_alloc_old w (.cells #[.string went, .string became, ptrOf file] 72) hfw).trans h
  have D0 := hide (World.ownsMap.alloc hd (.cells #[.string went, .string became, ptrOf file] 72))
  have L0 := hide (hl.keep ((Turns.refl (fun _ => False) w).alloc (.cells #[.string went, .string became, ptrOf file] 72)) (fun _ _ x => x))
  have hgb : w.heap.size ≠ b := fun e => by have := hd.lt; omega
  have hsz0 : (w.alloc (.cells #[.string went, .string became, ptrOf file] 72)).heap.size = w.heap.size + 1 := by simp
  clear h hl hd
  show Calls Try.prog 38 #[.pointer (some ⟨f, 0, none⟩), .agg #[.string went, .string became, ptrOf file]] w _
  go_enter Try.func38, Try.ntmps38
  go_wp2_with fail
  generalize w.alloc (.cells #[.string went, .string became, ptrOf file] 72) = w0 at *
  generalize hg0 : w.heap.size = g0 at *
  have c1 : w0.cell? ⟨f, 1, none⟩ = some (.map (some b)) := cell_of_row _ _ 1 _ 57 (0, 0) hf0
  have b0 : w0.cell? ⟨g0, 0, none⟩ = some (.string went) := cell_of_row _ _ 0 _ 72 (0, 0) hnew
  have b1 : w0.cell? ⟨g0, 1, none⟩ = some (.string became) := cell_of_row _ _ 1 _ 72 (0, 0) hnew
  have b2 : w0.cell? ⟨g0, 2, none⟩ = some (ptrOf file) := cell_of_row _ _ 2 _ 72 (0, 0) hnew
  have HT0 := hide T0
  have HF0 := hide hf0
  have HN0 := hide hnew
  have HRB := hide hrb
  clear T0 hf0 hnew hrb
  go_region_held (fun w' => w'.cell? ⟨f, 1, none⟩ = some (.map (some b)) ∧ w'.cell? ⟨g0, 0, none⟩ = some (.string went) ∧ w'.cell? ⟨g0, 1, none⟩ = some (.string became) ∧ w'.cell? ⟨g0, 2, none⟩ = some (ptrOf file)) (first | (with_reducible exact ⟨e1, e2, e3, e4⟩) | (simp only [World.cell?_drew]; with_reducible exact ⟨c1, b0, b1, b2⟩)) (first
    | (go_at_call 72; refine (apply_any b n D ⟨went, became, file⟩ _ (World.ownsMap.drew D0.out) hn h1 h2).mono ?_; rintro e w1 ⟨⟨v, rfl⟩, hd1, t1⟩; have e1 := t1.cell (a := w0.drew) c1 hfb; have e2 := t1.cell (a := w0.drew) b0 hgb; have e3 := t1.cell (a := w0.drew) b1 hgb; have e4 := t1.cell (a := w0.drew) b2 hgb; have HD1 := hide hd1; have HT1 := hide t1; clear hd1 t1))
  go_wp2_with fail
  clear e1 e2 e3 e4 c1 b0 b1 b2
  have HF1 := hide (HT1.out.heap (a := w0.drew) HF0.out hfb)
  have HN1 := hide (HT1.out.heap (a := w0.drew) HN0.out hgb)
  have HL1 := hide (L0.out.keep (w := w0.drew) HT1.out (fun k hk => (HRB.out k hk).1))
  have HT1' : Hid (Turns (fun k => k = f ∨ k = b ∨ inRow ch k) w w1) := HT0.out.drew.trans (HT1.out.mono fun k _ e => .inr (.inl e))
  have hx : (w1.drew.alloc (.cells #[.string went, .string became, ptrOf file] 72)).heap[w1.heap.size]? = some (.cells #[.string went, .string became, ptrOf file] 72 (0, 0)) := heap_alloc_new w1.drew _
  have T2 : Turns (fun _ => False) w1 (w1.drew.alloc (.cells #[.string went, .string became, ptrOf file] 72)) := (Turns.refl _ w1).drew.alloc _
  obtain ⟨g3, n3, c3, w3, hr3, hl3, t3, hin3⟩ := append_chg (w1.drew.alloc (.cells #[.string went, .string became, ptrOf file] 72)) ch l (HL1.out.keep T2 (fun _ _ x => x)) hlen ⟨went, became, file⟩ ⟨w1.heap.size, 0, none⟩ 1 (fun j u hu => by
    rw [Go.WideShapes.add_plain, Nat.zero_add, cell_of_row _ _ _ _ _ _ hx, List.getElem?_toArray]
    exact hu)
  have HT3 := hide ((HT1'.out.trans (T2.mono fun _ _ x => x.elim)).trans (t3.mono fun k _ e => .inr (.inr e)))
  have HF3 := hide (t3.heap (T2.heap HF1.out (fun x => x)) (fun hk => (HRB.out f hk).2 rfl))
  have HD3 := hide ((HD1.out.keep T2 (fun x => x)).keep t3 (fun hk => (HRB.out b hk).1 rfl))
  have HL3 := hide hl3
  have hin : ∀ k, inRow (.slice (some ⟨g3, 0, none⟩) n3 c3) k → inRow ch k ∨ g0 ≤ k := fun k hk => (hin3 k hk).imp id fun hle => Nat.le_trans (by rw [← hg0]; exact Nat.le_trans HT1'.out.size T2.size) hle
  have HIN := hide hin
  have FIN : Hid ((∃ v, Ending.returned (Value.tuple #[]) = Ending.returned v) ∧ ∃ ch', (w3.setCell ⟨f, 3, none⟩ (.slice (some ⟨g3, 0, none⟩) n3 c3)).heap[f]? = some (.cells (fsCells limit (.map (some b)) sy ch' used lost on ops fuse fault fail) 57 (0, 0)) ∧
      Dir (w3.setCell ⟨f, 3, none⟩ (.slice (some ⟨g3, 0, none⟩) n3 c3)) b (n + 1) (applyD D ⟨went, became, file⟩) ∧ Chs (w3.setCell ⟨f, 3, none⟩ (.slice (some ⟨g3, 0, none⟩) n3 c3)) ch' (l ++ [⟨went, became, file⟩]) ∧
      Turns (fun k => k = f ∨ k = b ∨ inRow ch k) w (w3.setCell ⟨f, 3, none⟩ (.slice (some ⟨g3, 0, none⟩) n3 c3)) ∧ ∀ k, inRow ch' k → inRow ch k ∨ w.heap.size ≤ k) := by
    have hgf : ∀ k, inRow (.slice (some ⟨g3, 0, none⟩) n3 c3) k → ¬ k = f := fun k hk e => by
      rcases HIN.out k hk with h | h
      · exact (HRB.out k h).2 e
      · omega
    refine ⟨⟨_, rfl⟩, _, heap_setCell_same w3 f 3 _ 57 _ HF3.out, HD3.out.setCell (by exact hfb.symm) _, HL3.out.keep ((Turns.refl (fun k => k = f) w3).setCell rfl _) hgf, HT3.out.setCell (.inl rfl) _, fun k hk => ?_⟩
    rw [hg0]
    exact HIN.out k hk
  have hq := hr3 54
  have q3 : w1.cell? ⟨f, 3, none⟩ = some ch := cell_of_row _ _ 3 _ 57 (0, 0) HF1.out
  have q3' : (w1.alloc (.cells #[.string went, .string became, ptrOf file] 72)).cell? ⟨f, 3, none⟩ = some ch := cell_of_row _ _ 3 _ 57 (0, 0) ((heap_alloc_old w1 _ (lt_of_heap HF1.out)).trans HF1.out)
  have q0 : w1.cell? ⟨g0, 0, none⟩ = some (.string went) := cell_of_row _ _ 0 _ 72 (0, 0) HN1.out
  have q1 : w1.cell? ⟨g0, 1, none⟩ = some (.string became) := cell_of_row _ _ 1 _ 72 (0, 0) HN1.out
  have q2 : w1.cell? ⟨g0, 2, none⟩ = some (ptrOf file) := cell_of_row _ _ 2 _ 72 (0, 0) HN1.out
  have y3 : w3.cell? ⟨f, 3, none⟩ = some ch := cell_of_row _ _ 3 _ 57 (0, 0) HF3.out
  have z3 : w3.frozen? ⟨f, 3, none⟩ = false := frozen_of_row _ _ 3 _ 57 HF3.out
  clear hx T2 hl3 t3 hin3 hr3 hin
  go_region_law (first
    | (refine step_append_run rfl (.tmp 14) (.tmp 16) 54 rfl _ _ rfl rfl _ _ hq 17 rfl ?_; simp only [Act.put, List.setIfInBounds_toArray, List.set_cons_zero, List.set_cons_succ]))
  all_goals go_wp2_with fail
  all_goals go_end0
  all_goals exact FIN.out
end Go.Proofs.Ytefjljdgdoklmaa

/-
  Create: a file without bytes becomes part of the directory, if its name is not there.
-/
namespace Go.Proofs.Ytefjljdgdoklmaa
open Go.RowKit Go.Maps

/-- What a look into a directory answers. -/
theorem Dir.look {w : World} {b n : Nat} {D : DataW Unit} (h : Dir w b n D) (s : ByteArray) (hs : s.size ≤ maxLen) :
    ∃ p : Option Nat, (Instr.lookup 53 (.map (some b)) (.string s) false).run Try.prog w = .ok (ptrOf p) w ∧ D.atKey (key s) .nil = match p with | none => .nil | some g => .lit (.int .i64 (g : Nat)) := by
  obtain ⟨v, ps, hr, hv⟩ := World.ownsMap.lookup h law9 Try.underlying53 (zero67 w) ptrR_none (keyOf9 s hs)
  rcases ptrR_inv hv with ⟨rfl, hd⟩ | ⟨g, rfl, hd⟩
  · exact ⟨none, hr, hd⟩
  · exact ⟨some g, hr, hd⟩
/-- Which file a name is. -/
def fileOf (D : DataW Unit) (s : ByteArray) : Option Nat :=
  match D.atKey (key s) .nil with
  | .lit (.int .i64 n) => some n.toNat
  | _ => none
theorem Dir.look' {w : World} {b n : Nat} {D : DataW Unit} (h : Dir w b n D) (s : ByteArray) (hs : s.size ≤ maxLen) :
    (Instr.lookup 53 (.map (some b)) (.string s) false).run Try.prog w = .ok (ptrOf (fileOf D s)) w := by
  obtain ⟨p, hr, hd⟩ := h.look s hs
  have : fileOf D s = p := by
    unfold fileOf
    rw [hd]
    cases p <;> simp
  rw [this]
  exact hr

set_option maxRecDepth 100000 in
set_option maxHeartbeats 1000000 in
theorem create1_there (f b n pf pn g : Nat) (D : DataW Unit) (name : ByteArray) (w : World) (h0 : w.cell? ⟨pf, 0, none⟩ = some (.pointer (some ⟨f, 0, none⟩))) (h1 : w.cell? ⟨pn, 0, none⟩ = some (.string name)) (h2 : w.cell? ⟨f, 1, none⟩ = some (.map (some b))) (hd : Dir w b n D) (hs : name.size ≤ maxLen) (hg : fileOf D name = some g) :
    Calls Try.prog 37 #[.pointer (some ⟨pf, 0, none⟩), .pointer (some ⟨pn, 0, none⟩)] w fun e w' => e = .returned (.int .i64 5) ∧ ∃ m, w' = w.drewN m := by
  have hl := fun m => Dir.look' (w := w.drewN m) hd name hs
  rw [hg] at hl
  simp only [ptrOf] at hl
  clear hd hg
  go_enter Try.func37, Try.ntmps37
  go_wp2_with fail
  go_quiet (fail)
  go_wp2_with fail
  go_ret
  exact ⟨rfl, _, rfl⟩

set_option maxRecDepth 100000 in
set_option maxHeartbeats 1000000 in
theorem create1_new (f b n pf pn : Nat) (D : DataW Unit) (l : List Chg) (name : ByteArray) (limit used lost ops fuse fault fail : Int) (on : Bool) (sy ch : Value) (w : World) (h0 : w.cell? ⟨pf, 0, none⟩ = some (.pointer (some ⟨f, 0, none⟩))) (h1 : w.cell? ⟨pn, 0, none⟩ = some (.string name))
    (h : w.heap[f]? = some (.cells (fsCells limit (.map (some b)) sy ch used lost on ops fuse fault fail) 57 (0, 0))) (hd : Dir w b n D) (hl : Chs w ch l) (hn : n < maxLen) (hlen : l.length ≤ 1000000000) (hs : name.size ≤ maxLen) (hg : fileOf D name = none) :
    Calls Try.prog 37 #[.pointer (some ⟨pf, 0, none⟩), .pointer (some ⟨pn, 0, none⟩)] w fun e w' => e = .returned (.int .i64 0) ∧ ∃ ch', w'.heap[f]? = some (.cells (fsCells limit (.map (some b)) sy ch' used lost on ops fuse fault fail) 57 (0, 0)) ∧
      w'.heap[w.heap.size]? = some (.cells #[.slice none 0 0, .int .i64 0] 70 (0, 0)) ∧ Dir w' b (n + 1) (applyD D ⟨⟨#[]⟩, name, some w.heap.size⟩) ∧ Chs w' ch' (l ++ [⟨⟨#[]⟩, name, some w.heap.size⟩]) ∧
      Turns (fun k => k = f ∨ k = b ∨ inRow ch k) w w' ∧ ∀ k, inRow ch' k → inRow ch k ∨ w.heap.size ≤ k := by
  have hlk := fun m => Dir.look' (w := w.drewN m) hd name hs
  rw [hg] at hlk
  simp only [ptrOf] at hlk
  have h2 : w.cell? ⟨f, 1, none⟩ = some (.map (some b)) := cell_of_row w f 1 _ 57 (0, 0) h
  have H := hide h
  have HD := hide hd
  have HL := hide hl
  clear hd hg h hl
  go_enter Try.func37, Try.ntmps37
  go_wp2_with fail
  go_quiet (fail)
  go_wp2_with fail
  have hfw := lt_of_heap H.out
  have t1 : Turns (fun _ => False) w ((w.drewN nq).alloc (.cells #[.slice none 0 0, .int .i64 0] 70)) := ((Turns.refl _ w).drewN nq).alloc _
  have hx : ((w.drewN nq).alloc (.cells #[.slice none 0 0, .int .i64 0] 70)).heap[w.heap.size]? = some (.cells #[.slice none 0 0, .int .i64 0] 70 (0, 0)) := heap_alloc_new (w.drewN nq) _
  have hd1 : Dir ((w.drewN nq).alloc (.cells #[.slice none 0 0, .int .i64 0] 70)) b n D := HD.out.keep t1 (fun x => x)
  have hl1 : Chs ((w.drewN nq).alloc (.cells #[.slice none 0 0, .int .i64 0] 70)) ch l := HL.out.keep t1 (fun _ _ x => x)
  have hrow : ∀ k, inRow ch k → k < w.heap.size := fun k hk => by
    obtain ⟨cs, hc⟩ := HL.out.row hk
    exact lt_of_heap hc
  refine (change_any f b n D l ⟨⟨#[]⟩, name, some w.heap.size⟩ limit used lost ops fuse fault fail on sy ch _ (t1.heap H.out (fun x => x)) hd1 hl1 hn hlen (by show (⟨#[]⟩ : ByteArray).size ≤ maxLen; decide) hs).mono ?_
  rintro e w2 ⟨⟨v, rfl⟩, ch', k1, k2, k3, k4, k5⟩
  have K1 := hide k1
  have K2 := hide k2
  have K3 := hide k3
  have hbw := HD.out.lt
  have K4 := hide (k4.heap hx (fun hh => by
    rcases hh with e | e | e
    · omega
    · omega
    · have := hrow _ e; omega))
  have K5 := hide ((t1.mono fun _ _ x => x.elim).trans k4)
  have K6 : Hid (∀ k, inRow ch' k → inRow ch k ∨ w.heap.size ≤ k) := fun k hk => (k5 k hk).imp id fun hle => Nat.le_trans t1.size hle
  clear k1 k2 k3 k4 k5 t1 hx hd1 hl1 hrow
  go_wp2_with fail
  go_ret
  exact ⟨rfl, ch', K1.out, K4.out, K2.out, K3.out, K5.out, K6.out⟩

theorem enters37 (caps : Array Value) (w : World) : (callFunc 37 caps).run Try.prog w = .ok (.enter 37 caps) w := by kernel_rfl

set_option maxRecDepth 100000 in
set_option maxHeartbeats 4000000 in
/-- Create goes through the guard with the name's test and its own closure. -/
theorem create_via (p : Option Addr) (name : ByteArray) (w : World) (R : Ending → World → Prop)
    (HR : ∀ w1 pf pn, Turns (fun _ => False) w w1 → w1.cell? ⟨pf, 0, none⟩ = some (.pointer p) → w1.cell? ⟨pn, 0, none⟩ = some (.string name) → w.heap.size ≤ pf → w.heap.size ≤ pn → Calls Try.prog 36 #[.pointer p, .bool (goodN name), .func (.func 37) #[] #[.pointer (some ⟨pf, 0, none⟩), .pointer (some ⟨pn, 0, none⟩)]] w1 fun e w' => ∃ z : Int, e = .returned (.int .i64 z) ∧ R (.returned (.int .i64 z)) w' ∧ Turns (fun k => k < w.heap.size) w1 w') :
    Calls Try.prog 9 #[.pointer p, .string name] w R := by
  have hmf : ∀ (fn : Fn) (first cap : Array Value) (w : World), (Instr.makeFunc fn first cap).run Try.prog w = .ok (.func fn first cap) w := fun _ _ _ _ => rfl
  have HRR := hide HR
  clear HR
  go_enter Try.func9, Try.ntmps9
  go_wp2_with fail
  have hT : Turns (fun _ => False) w ((w.alloc (.cells #[.pointer p] 22)).alloc (.cells #[.string name] 9)) := ((Turns.refl _ w).alloc _).alloc _
  have x0 : ((w.alloc (.cells #[.pointer p] 22)).alloc (.cells #[.string name] 9)).cell? ⟨w.heap.size, 0, none⟩ = some (.pointer p) := cell_of_row _ _ 0 _ 22 (0, 0) ((heap_alloc_old _ _ (by simp)).trans (heap_alloc_new w _))
  have x1 : ((w.alloc (.cells #[.pointer p] 22)).alloc (.cells #[.string name] 9)).cell? ⟨w.heap.size + 1, 0, none⟩ = some (.string name) := cell_of_row _ _ 0 _ 9 (0, 0) (heap_alloc2_new w _ _)
  have HT := hide hT
  clear hT
  generalize (w.alloc (.cells #[.pointer p] 22)).alloc (.cells #[.string name] 9) = w1 at *
  generalize hpf : w.heap.size = pf at *
  have hle : pf ≤ pf + 1 := Nat.le_succ _
  go_region_held (fun w' => w'.cell? ⟨pf, 0, none⟩ = some (.pointer p) ∧ w'.cell? ⟨pf + 1, 0, none⟩ = some (.string name)) (first | (with_reducible exact ⟨f0, f1⟩) | (simp only [World.cell?_drew]; with_reducible exact ⟨x0, x1⟩)) (first
    | (go_at_call 22; refine (name_any name _).mono ?_; rintro e w2 ⟨rfl, rfl⟩)
    | (go_at_call 36; refine (HRR.out _ pf (pf + 1) HT.out.drew x0 x1 (Nat.le_refl _) hle).mono ?_; rintro e w3 ⟨z, rfl, hz, ht⟩; have HZ := hide hz; have f0 := ht.cell (a := w1.drew) x0 (Nat.lt_irrefl _); have f1 := ht.cell (a := w1.drew) x1 (Nat.not_lt.2 hle); clear hz ht))
  all_goals go_wp2_with fail
  all_goals exact HZ.out
end Go.Proofs.Ytefjljdgdoklmaa

/-
  New: a file system without files.
-/
namespace Go.Proofs.Ytefjljdgdoklmaa
open Go.RowKit Go.Maps

set_option maxRecDepth 100000 in
set_option maxHeartbeats 1000000 in
theorem new_good (limit : Int) (w : World) (h1 : 0 ≤ limit) (h2 : limit ≤ 1073741824) :
    Calls Try.prog 8 #[.int .i64 limit] w fun e w' => e = .returned (.tuple #[.pointer (some ⟨w.heap.size + 2, 0, none⟩), .int .i64 0]) ∧
      w'.heap[w.heap.size + 2]? = some (.cells (fsCells limit (.map (some w.heap.size)) (.map (some (w.heap.size + 1))) (.slice none 0 0) 0 0 true 0 (-1) (-1) 0) 57 (0, 0)) ∧ Dir w' w.heap.size 0 (.map []) ∧ Dir w' (w.heap.size + 1) 0 (.map []) ∧ Below w.heap.size w w' := by
  have hmm := @run_makeMap Try.prog
  have g1 : ¬ limit < 0 := by omega
  have g2 : ¬ (1073741824 : Int) < limit := by omega
  have d0 := World.ownsMap_made w Try.prog 9 ptrR
  have d1 := World.ownsMap_made (w.alloc (.map #[] 0)) Try.prog 9 ptrR
  have e1 : (w.alloc (.map #[] 0)).heap.size = w.heap.size + 1 := by simp
  rw [e1] at d1
  have D0 := hide (World.ownsMap.alloc (World.ownsMap.alloc d0 (.map #[] 0)) (.cells (fsCells limit (.map (some w.heap.size)) (.map (some (w.heap.size + 1))) (.slice none 0 0) 0 0 true 0 (-1) (-1) 0) 57))
  have D1 := hide (World.ownsMap.alloc d1 (.cells (fsCells limit (.map (some w.heap.size)) (.map (some (w.heap.size + 1))) (.slice none 0 0) 0 0 true 0 (-1) (-1) 0) 57))
  have B0 : Hid (Below w.heap.size w (((w.alloc (.map #[] 0)).alloc (.map #[] 0)).alloc (.cells (fsCells limit (.map (some w.heap.size)) (.map (some (w.heap.size + 1))) (.slice none 0 0) 0 0 true 0 (-1) (-1) 0) 57))) := (((Below.refl _ _).alloc (Nat.le_refl _) _).alloc (by simp) _).alloc (by simp; omega) _
  have N0 : Hid ((((w.alloc (.map #[] 0)).alloc (.map #[] 0)).alloc (.cells (fsCells limit (.map (some w.heap.size)) (.map (some (w.heap.size + 1))) (.slice none 0 0) 0 0 true 0 (-1) (-1) 0) 57)).heap[w.heap.size + 2]? = some (.cells (fsCells limit (.map (some w.heap.size)) (.map (some (w.heap.size + 1))) (.slice none 0 0) 0 0 true 0 (-1) (-1) 0) 57 (0, 0))) := by
    have := heap_alloc_new ((w.alloc (.map #[] 0)).alloc (.map #[] 0)) (.cells (fsCells limit (.map (some w.heap.size)) (.map (some (w.heap.size + 1))) (.slice none 0 0) 0 0 true 0 (-1) (-1) 0) 57)
    rwa [show ((w.alloc (.map #[] 0)).alloc (.map #[] 0)).heap.size = w.heap.size + 2 by simp] at this
  clear d0 d1 e1
  go_enter Try.func8, Try.ntmps8
  go_wp2_with fail
  go_ret2
  exact ⟨rfl, N0.out, D0.out, D1.out, B0.out⟩
set_option maxRecDepth 100000 in
set_option maxHeartbeats 1000000 in
theorem new_bad (limit : Int) (w : World) (h : limit < 0 ∨ 1073741824 < limit) :
    Calls Try.prog 8 #[.int .i64 limit] w fun e w' => e = .returned (.tuple #[.pointer none, .int .i64 2]) ∧ w' = w := by
  by_cases h1 : limit < 0
  · go_enter Try.func8, Try.ntmps8
    go_wp2_with fail
    go_ret2
    exact ⟨rfl, rfl⟩
  · have g2 : (1073741824 : Int) < limit := by omega
    go_enter Try.func8, Try.ntmps8
    go_wp2_with fail
    go_ret2
    exact ⟨rfl, rfl⟩

set_option maxRecDepth 100000 in
set_option maxHeartbeats 1000000 in
/-- n modulo one more than most; 0 of an n below 0. -/
theorem within_any (n most : Int) (w : World) (h : 0 ≤ most) (h2 : most ≤ 1000000000000) (h3 : n ≤ 9223372036854775807) (h4 : -9223372036854775808 ≤ n) :
    Calls Try.prog 43 #[.int .i64 n, .int .i64 most] w fun e w' => e = .returned (.int .i64 (max n 0 % (most + 1))) ∧ w' = w := by
  have hne : most + 1 ≠ 0 := by omega
  have hne' : ((most + 1 : Int) == 0) = false := by rw [beq_eq_false_iff_ne]; omega
  go_enter Try.func43, Try.ntmps43
  go_wp2_with fail
  · go_ret
    exact ⟨by rw [show max n 0 = 0 by omega]; simp, rfl⟩
  · go_ret
    exact ⟨by rw [show max n 0 = n by omega]; rfl, rfl⟩
end Go.Proofs.Ytefjljdgdoklmaa

/-
  The first changes become part of the synced directory, and the others are forgotten.
-/
namespace Go.Proofs.Ytefjljdgdoklmaa
open Go.RowKit Go.Maps

theorem chCells_at (l : List Chg) (k : Nat) (c : Chg) (h : l[k]? = some c) : (chCells l)[k * 3]? = some (.string c.went) ∧ (chCells l)[k * 3 + 1]? = some (.string c.became) ∧ (chCells l)[k * 3 + 2]? = some (ptrOf c.file) := by
  induction l generalizing k with
  | nil => simp at h
  | cons q r ih =>
    cases k with
    | zero =>
      obtain rfl : q = c := by simpa using h
      exact ⟨rfl, rfl, rfl⟩
    | succ k =>
      have := ih k (by simpa using h)
      rw [show (k + 1) * 3 = k * 3 + 3 by omega, show k * 3 + 3 + 1 = k * 3 + 1 + 3 by omega, show k * 3 + 3 + 2 = k * 3 + 2 + 3 by omega]
      exact this

set_option maxRecDepth 100000 in
set_option maxHeartbeats 4000000 in
theorem settle_some (f bs ns k : Nat) (S : DataW Unit) (l : List Chg) (limit used lost ops fuse fault fail : Int) (on : Bool) (nm : Value) (g c n : Nat) (w : World)
    (h : w.heap[f]? = some (.cells (fsCells limit nm (.map (some bs)) (.slice (some ⟨g, 0, none⟩) n c) used lost on ops fuse fault fail) 57 (0, 0))) (hd : Dir w bs ns S) (hl : Chs w (.slice (some ⟨g, 0, none⟩) n c) l) (hk : k ≤ l.length) (hn : ns + k ≤ 1000000000) (hlen : l.length ≤ 1000000000)
    (hnm : ∀ x ∈ l, x.went.size ≤ maxLen ∧ x.became.size ≤ maxLen) :
    Calls Try.prog 42 #[.pointer (some ⟨f, 0, none⟩), .int .i64 (k : Nat)] w fun e w' => (∃ v, e = .returned v) ∧ w'.heap[f]? = some (.cells (fsCells limit nm (.map (some bs)) (.slice none 0 0) used lost on ops fuse fault fail) 57 (0, 0)) ∧ Dir w' bs (ns + k) ((l.take k).foldl applyD S) ∧ Turns (fun j => j = f ∨ j = bs) w w' := by
  have hfb : f ≠ bs := hd.ne_cells h
  obtain ⟨cs, hrow⟩ := hl.row ⟨n, c, rfl⟩
  have hgb : g ≠ bs := hd.ne_cells hrow
  have hgf : g ≠ f := fun e => by rw [e, h] at hrow; cases hrow
  obtain ⟨hn1, hnc, hcells⟩ : n = l.length ∧ n ≤ c ∧ ∀ (j : Nat) (x : Chg), l[j]? = some x → ∀ w' : World, w'.heap[g]? = w.heap[g]? → w'.cell? ⟨g, j * 3, none⟩ = some (.string x.went) ∧ w'.cell? ⟨g, j * 3 + 1, none⟩ = some (.string x.became) ∧ w'.cell? ⟨g, j * 3 + 2, none⟩ = some (ptrOf x.file) := by
    rcases hl with ⟨_, e⟩ | ⟨g', c', n', e, h2, h3, h4, cs', h5, h6, h7⟩
    · cases e
    · cases e
      refine ⟨h2, h4, fun j x hx w' hw' => ?_⟩
      have hj : j < l.length := by
        rcases Nat.lt_or_ge j l.length with h | h
        · exact h
        · rw [List.getElem?_eq_none h] at hx; cases hx
      obtain ⟨a0, a1, a2⟩ := chCells_at l j x hx
      have hlc := chCells_length l
      rw [h5] at hw'
      refine ⟨?_, ?_, ?_⟩
      · rw [cell_of_row w' g _ cs' 72 (0, 0) hw', h7 _ (by omega), a0]
      · rw [cell_of_row w' g _ cs' 72 (0, 0) hw', h7 _ (by omega), a1]
      · rw [cell_of_row w' g _ cs' 72 (0, 0) hw', h7 _ (by omega), a2]
  have c3 : w.cell? ⟨f, 3, none⟩ = some (.slice (some ⟨g, 0, none⟩) n c) := cell_of_row w f 3 _ 57 (0, 0) h
  have H := hide h
  have HD := hide hd
  have HCE := hide hcells
  have HNM := hide hnm
  have hgw := lt_of_heap hrow
  clear h hd hl hcells hnm hrow
  have kc : (k : Int) ≤ (c : Int) := by omega
  go_enter Try.func42, Try.ntmps42
  go_wp2_with fail
  go_loopw [13] (fun iv wr => ∃ i : Nat, iv = .int .i64 (i : Nat) ∧ i ≤ k ∧ Dir wr bs (ns + i) ((l.take i).foldl applyD S) ∧ Turns (fun j => j = bs) w wr) (fun iv _ => k - (intOf iv).toNat)
  case atStart => exact ⟨0, rfl, Nat.zero_le _, HD.out, Turns.refl _ _⟩
  case round =>
    obtain ⟨i, rfl, hi, hdi, ht⟩ := hrel
    have HDI := hide hdi
    have HT := hide ht
    clear hdi ht
    by_cases hik : i < k
    · have hil : i < l.length := by omega
      obtain ⟨x, hx⟩ : ∃ x, l[i]? = some x := ⟨l[i], List.getElem?_eq_getElem hil⟩
      have hxm : x ∈ l := List.mem_of_getElem? hx
      obtain ⟨a0, a1, a2⟩ := HCE.out i x hx wr (HT.out.block g hgw hgb)
      have hsn : (l.take (i + 1)).foldl applyD S = applyD ((l.take i).foldl applyD S) x := by
        rw [List.take_add_one, hx]
        simp
      have HSN := hide hsn
      obtain ⟨m1, m2⟩ := HNM.out x hxm
      obtain ⟨went, became, file⟩ := x
      simp only at a0 a1 a2 m1 m2
      have i1 : (i : Int) < (k : Int) := by omega
      have i0 : (0 : Int) ≤ (i : Int) := by omega
      clear hsn hx
      rcases file with _ | q
      · simp only [ptrOf] at a2
        go_wp2_with fail
        have TA : Turns (fun _ => False) wr (wr.alloc (.cells #[.string went, .string became, .pointer none] 72)) := (Turns.refl _ wr).alloc _
        have hnew := heap_alloc_new wr (.cells #[.string went, .string became, .pointer none] 72)
        have HFA := hide (TA.heap (HT.out.heap H.out hfb) (fun x => x))
        have HDA := hide (HDI.out.keep TA (fun x => x))
        have hgb' : wr.heap.size ≠ bs := fun e => by have := HDI.out.lt; omega
        have HTA := hide (HT.out.trans (TA.mono fun _ _ x => x.elim))
        clear TA
        generalize hg0 : wr.heap.size = g0 at *
        generalize wr.alloc (.cells #[.string went, .string became, .pointer none] 72) = wa at *
        have d2 : wa.cell? ⟨f, 2, none⟩ = some (.map (some bs)) := cell_of_row _ _ 2 _ 57 (0, 0) HFA.out
        have b0 : wa.cell? ⟨g0, 0, none⟩ = some (.string went) := cell_of_row _ _ 0 _ 72 (0, 0) hnew
        have b1 : wa.cell? ⟨g0, 1, none⟩ = some (.string became) := cell_of_row _ _ 1 _ 72 (0, 0) hnew
        have b2 : wa.cell? ⟨g0, 2, none⟩ = some (.pointer none) := cell_of_row _ _ 2 _ 72 (0, 0) hnew
        clear hnew a0 a1 a2
        go_region_held (fun w' => w'.cell? ⟨f, 2, none⟩ = some (.map (some bs)) ∧ w'.cell? ⟨g0, 0, none⟩ = some (.string went) ∧ w'.cell? ⟨g0, 1, none⟩ = some (.string became) ∧ w'.cell? ⟨g0, 2, none⟩ = some (.pointer none)) (first | (with_reducible exact ⟨e1, e2, e3, e4⟩) | (simp only [World.cell?_drew]; with_reducible exact ⟨d2, b0, b1, b2⟩)) (first
          | (go_at_call 72; refine (apply_any bs (ns + i) _ ⟨went, became, none⟩ _ (World.ownsMap.drew HDA.out) (by unfold maxLen; omega) m1 m2).mono ?_; rintro e w1 ⟨⟨v, rfl⟩, hd1, t1⟩; have e1 := t1.cell (a := wa.drew) d2 hfb; have e2 := t1.cell (a := wa.drew) b0 hgb'; have e3 := t1.cell (a := wa.drew) b1 hgb'; have e4 := t1.cell (a := wa.drew) b2 hgb'; have HD1 := hide hd1; have HT1 := hide t1; clear hd1 t1))
        go_wp2_with fail
        go_roundw
        case rel => exact ⟨i + 1, by go_num, by omega, by rw [HSN.out]; exact HD1.out, HTA.out.drew.trans HT1.out⟩
        case measure => simp [intOf]; omega
      · simp only [ptrOf] at a2
        go_wp2_with fail
        have TA : Turns (fun _ => False) wr (wr.alloc (.cells #[.string went, .string became, .pointer (some ⟨q, 0, none⟩)] 72)) := (Turns.refl _ wr).alloc _
        have hnew := heap_alloc_new wr (.cells #[.string went, .string became, .pointer (some ⟨q, 0, none⟩)] 72)
        have HFA := hide (TA.heap (HT.out.heap H.out hfb) (fun x => x))
        have HDA := hide (HDI.out.keep TA (fun x => x))
        have hgb' : wr.heap.size ≠ bs := fun e => by have := HDI.out.lt; omega
        have HTA := hide (HT.out.trans (TA.mono fun _ _ x => x.elim))
        clear TA
        generalize hg0 : wr.heap.size = g0 at *
        generalize wr.alloc (.cells #[.string went, .string became, .pointer (some ⟨q, 0, none⟩)] 72) = wa at *
        have d2 : wa.cell? ⟨f, 2, none⟩ = some (.map (some bs)) := cell_of_row _ _ 2 _ 57 (0, 0) HFA.out
        have b0 : wa.cell? ⟨g0, 0, none⟩ = some (.string went) := cell_of_row _ _ 0 _ 72 (0, 0) hnew
        have b1 : wa.cell? ⟨g0, 1, none⟩ = some (.string became) := cell_of_row _ _ 1 _ 72 (0, 0) hnew
        have b2 : wa.cell? ⟨g0, 2, none⟩ = some (.pointer (some ⟨q, 0, none⟩)) := cell_of_row _ _ 2 _ 72 (0, 0) hnew
        clear hnew a0 a1 a2
        go_region_held (fun w' => w'.cell? ⟨f, 2, none⟩ = some (.map (some bs)) ∧ w'.cell? ⟨g0, 0, none⟩ = some (.string went) ∧ w'.cell? ⟨g0, 1, none⟩ = some (.string became) ∧ w'.cell? ⟨g0, 2, none⟩ = some (.pointer (some ⟨q, 0, none⟩))) (first | (with_reducible exact ⟨e1, e2, e3, e4⟩) | (simp only [World.cell?_drew]; with_reducible exact ⟨d2, b0, b1, b2⟩)) (first
          | (go_at_call 72; refine (apply_any bs (ns + i) _ ⟨went, became, some q⟩ _ (World.ownsMap.drew HDA.out) (by unfold maxLen; omega) m1 m2).mono ?_; rintro e w1 ⟨⟨v, rfl⟩, hd1, t1⟩; have e1 := t1.cell (a := wa.drew) d2 hfb; have e2 := t1.cell (a := wa.drew) b0 hgb'; have e3 := t1.cell (a := wa.drew) b1 hgb'; have e4 := t1.cell (a := wa.drew) b2 hgb'; have HD1 := hide hd1; have HT1 := hide t1; clear hd1 t1))
        go_wp2_with fail
        go_roundw
        case rel => exact ⟨i + 1, by go_num, by omega, by rw [HSN.out]; exact HD1.out, HTA.out.drew.trans HT1.out⟩
        case measure => simp [intOf]; omega
    · obtain rfl : i = k := by omega
      have HF := hide (HT.out.heap H.out hfb)
      have y3 : wr.cell? ⟨f, 3, none⟩ = some (.slice (some ⟨g, 0, none⟩) n c) := cell_of_row wr f 3 _ 57 (0, 0) HF.out
      have z3 : wr.frozen? ⟨f, 3, none⟩ = false := frozen_of_row wr f 3 _ 57 HF.out
      go_wp2_with fail
      go_end0
      exact ⟨⟨_, rfl⟩, heap_setCell_same wr f 3 _ 57 _ HF.out, HDI.out.setCell (by exact hfb.symm) _, (HT.out.mono fun j _ e => .inr e).setCell (.inl rfl) _⟩

set_option maxRecDepth 100000 in
set_option maxHeartbeats 1000000 in
theorem settle_none (f : Nat) (limit used lost ops fuse fault fail : Int) (on : Bool) (nm sy : Value) (w : World)
    (h : w.heap[f]? = some (.cells (fsCells limit nm sy (.slice none 0 0) used lost on ops fuse fault fail) 57 (0, 0))) :
    Calls Try.prog 42 #[.pointer (some ⟨f, 0, none⟩), .int .i64 0] w fun e w' => (∃ v, e = .returned v) ∧ w'.heap[f]? = some (.cells (fsCells limit nm sy (.slice none 0 0) used lost on ops fuse fault fail) 57 (0, 0)) ∧ Turns (fun j => j = f) w w' := by
  have c3 : w.cell? ⟨f, 3, none⟩ = some (.slice none 0 0) := cell_of_row w f 3 _ 57 (0, 0) h
  have z3 : w.frozen? ⟨f, 3, none⟩ = false := frozen_of_row w f 3 _ 57 h
  have H := hide h
  clear h
  go_enter Try.func42, Try.ntmps42
  go_wp2_with fail
  go_loopw [13] (fun iv wr => iv = .int .i64 0 ∧ wr = w) (fun _ _ => 0)
  case atStart => exact ⟨rfl, rfl⟩
  case round =>
    obtain ⟨rfl, rfl⟩ := hrel
    go_wp2_with fail
    go_end0
    exact ⟨⟨_, rfl⟩, heap_setCell_same wr f 3 _ 57 _ H.out, (Turns.refl (fun j => j = f) wr).setCell (p := ⟨f, 3, none⟩) rfl _⟩

theorem settle_any (f bs ns k : Nat) (S : DataW Unit) (l : List Chg) (limit used lost ops fuse fault fail : Int) (on : Bool) (nm ch : Value) (w : World)
    (h : w.heap[f]? = some (.cells (fsCells limit nm (.map (some bs)) ch used lost on ops fuse fault fail) 57 (0, 0))) (hd : Dir w bs ns S) (hl : Chs w ch l) (hk : k ≤ l.length) (hn : ns + k ≤ 1000000000) (hlen : l.length ≤ 1000000000)
    (hnm : ∀ x ∈ l, x.went.size ≤ maxLen ∧ x.became.size ≤ maxLen) :
    Calls Try.prog 42 #[.pointer (some ⟨f, 0, none⟩), .int .i64 (k : Nat)] w fun e w' => (∃ v, e = .returned v) ∧ w'.heap[f]? = some (.cells (fsCells limit nm (.map (some bs)) (.slice none 0 0) used lost on ops fuse fault fail) 57 (0, 0)) ∧ Dir w' bs (ns + k) ((l.take k).foldl applyD S) ∧ Turns (fun j => j = f ∨ j = bs) w w' := by
  rcases id hl with ⟨rfl, rfl⟩ | ⟨g, c, n, rfl, _⟩
  · obtain rfl : k = 0 := by simpa using hk
    refine (settle_none f limit used lost ops fuse fault fail on nm _ w h).mono fun e w' ⟨he, h1, h2⟩ => ⟨he, h1, ?_, h2.mono fun _ _ e => .inl e⟩
    exact hd.keep h2 fun e => hd.ne_cells h e.symm
  · exact settle_some f bs ns k S l limit used lost ops fuse fault fail on nm g c n w h hd hl hk hn hlen hnm

theorem wrapI (z : Int) (h1 : -9223372036854775808 ≤ z) (h2 : z ≤ 9223372036854775807) : IntKind.i64.wrap z = z := by
  simp [IntKind.wrap, IntKind.bits, IntKind.signed]
  omega

theorem Chs.len {w : World} {v : Value} {l : List Chg} (h : Chs w v l) : ∃ a c, v = .slice a l.length c := by
  rcases h with ⟨rfl, rfl⟩ | ⟨g, c, n, rfl, rfl, _⟩
  · exact ⟨_, _, rfl⟩
  · exact ⟨_, _, rfl⟩

set_option maxRecDepth 100000 in
set_option maxHeartbeats 4000000 in
theorem syncdir1_any (f bs ns pf : Nat) (S : DataW Unit) (l : List Chg) (limit used lost ops fuse fault fail : Int) (on : Bool) (nm ch : Value) (w : World) (h0 : w.cell? ⟨pf, 0, none⟩ = some (.pointer (some ⟨f, 0, none⟩)))
    (h : w.heap[f]? = some (.cells (fsCells limit nm (.map (some bs)) ch used lost on ops fuse fault fail) 57 (0, 0))) (hd : Dir w bs ns S) (hl : Chs w ch l) (hn : ns + l.length ≤ 1000000000) (hnm : ∀ x ∈ l, x.went.size ≤ maxLen ∧ x.became.size ≤ maxLen) (hpf : pf ≠ f) (hpb : pf ≠ bs) (hu : 0 ≤ lost ∧ lost ≤ used ∧ used ≤ 1073741824) :
    Calls Try.prog 47 #[.pointer (some ⟨pf, 0, none⟩)] w fun e w' => e = .returned (.int .i64 0) ∧ w'.heap[f]? = some (.cells (fsCells limit nm (.map (some bs)) (.slice none 0 0) (used - lost) 0 on ops fuse fault fail) 57 (0, 0)) ∧ Dir w' bs (ns + l.length) (l.foldl applyD S) ∧ Turns (fun j => j = f ∨ j = bs) w w' := by
  have hfb : f ≠ bs := hd.ne_cells h
  obtain ⟨a, c, rfl⟩ := hl.len
  have c3 : w.cell? ⟨f, 3, none⟩ = some (.slice a l.length c) := cell_of_row w f 3 _ 57 (0, 0) h
  have H := hide h
  have HD := hide hd
  have HL := hide hl
  have HNM := hide hnm
  clear h hd hl hnm
  go_enter Try.func47, Try.ntmps47
  go_wp2_with fail
  go_cut [8] from 2 to 8 (fun _ wx => wx.heap[f]? = some (.cells (fsCells limit nm (.map (some bs)) (.slice none 0 0) used lost on ops fuse fault fail) 57 (0, 0)) ∧ Dir wx bs (ns + l.length) (l.foldl applyD S) ∧ Turns (fun j => j = f ∨ j = bs) w wx)
  case first =>
    go_region_with (first
      | (go_at_call 42; refine (settle_any f bs ns l.length S l limit used lost ops fuse fault fail on nm (.slice a l.length c) w.drew H.out (World.ownsMap.drew HD.out) HL.out (Nat.le_refl _) hn (by omega) HNM.out).mono ?_; rintro e w1 ⟨⟨v, rfl⟩, k1, k2, k3⟩; have K1 := hide k1; have K2 := hide k2; have K3 := hide k3; clear k1 k2 k3))
    all_goals go_wp2_with fail
    all_goals go_meet
    all_goals exact ⟨K1.out, by have := K2.out; rwa [List.take_length] at this, (Turns.refl _ w).drew.trans K3.out⟩
  case rest =>
    obtain ⟨k1, k2, k3⟩ := hcut
    have p0 : wc.cell? ⟨pf, 0, none⟩ = some (.pointer (some ⟨f, 0, none⟩)) := k3.cell h0 (fun x => x.elim hpf hpb)
    have K1 := hide k1
    have K2 := hide k2
    have K3 := hide k3
    have c4 : wc.cell? ⟨f, 4, none⟩ = some (.int .i64 used) := cell_of_row wc f 4 _ 57 (0, 0) k1
    have c5 : wc.cell? ⟨f, 5, none⟩ = some (.int .i64 lost) := cell_of_row wc f 5 _ 57 (0, 0) k1
    have z4 : wc.frozen? ⟨f, 4, none⟩ = false := frozen_of_row wc f 4 _ 57 k1
    clear k1 k2 k3
    go_wp2_with fail
    go_cut [17] from 9 to 19 (fun _ wx => wx = (wc.setCell ⟨f, 4, none⟩ (.int .i64 (used - lost))).drew)
    case first =>
      go_region_with (fail)
      all_goals go_wp2_with fail
      all_goals go_meet
      all_goals rw [wrapI _ (by omega) (by omega)]
    case rest =>
      subst hcut
      have t4 : Tick wc (wc.setCell ⟨f, 4, none⟩ (.int .i64 (used - lost))).drew f 57 (fsCells limit nm (.map (some bs)) (.slice none 0 0) (used - lost) lost on ops fuse fault fail) := ((Tick.refl K1.out).set 4 (.int .i64 (used - lost))).drew
      have T4 := hide t4
      clear t4 c4 c5 z4
      generalize (wc.setCell ⟨f, 4, none⟩ (.int .i64 (used - lost))).drew = wd at *
      have p1 : wd.cell? ⟨pf, 0, none⟩ = some (.pointer (some ⟨f, 0, none⟩)) := (Turns.of_tick T4.out).cell p0 hpf
      have c5 : wd.cell? ⟨f, 5, none⟩ = some (.int .i64 lost) := T4.out.cell 5
      have z5 := T4.out.frozen 5
      go_wp2_with fail
      go_ret
      have T5 := T4.out.set 5 (.int .i64 0)
      have hT := Turns.of_tick T5
      exact ⟨rfl, T5.1, K2.out.keep hT (fun e => hfb e.symm), K3.out.trans (hT.mono fun _ _ e => .inl e)⟩
end Go.Proofs.Ytefjljdgdoklmaa

/-
  What is done to the file of a name, and SyncDir, through the guard.
-/
namespace Go.Proofs.Ytefjljdgdoklmaa
open Go.RowKit Go.Maps

theorem makeF : ∀ (fn : Fn) (first cap : Array Value) (w : World), (Instr.makeFunc fn first cap).run Try.prog w = .ok (.func fn first cap) w := fun _ _ _ _ => rfl
theorem enters47 (caps : Array Value) (w : World) : (callFunc 47 caps).run Try.prog w = .ok (.enter 47 caps) w := by kernel_rfl
theorem enters73 (caps : Array Value) (w : World) : (callFunc 73 caps).run Try.prog w = .ok (.enter 73 caps) w := by kernel_rfl

set_option maxRecDepth 100000 in
set_option maxHeartbeats 1000000 in
theorem syncdir_via (p : Option Addr) (w : World) (R : Ending → World → Prop)
    (HR : ∀ w1, Turns (fun _ => False) w w1 → w1.cell? ⟨w.heap.size, 0, none⟩ = some (.pointer p) → Calls Try.prog 36 #[.pointer p, .bool true, .func (.func 47) #[] #[.pointer (some ⟨w.heap.size, 0, none⟩)]] w1 fun e w' => ∃ z : Int, e = .returned (.int .i64 z) ∧ R (.returned (.int .i64 z)) w') :
    Calls Try.prog 13 #[.pointer p] w R := by
  have hmf := makeF
  have HRR := hide HR
  have hT : Turns (fun _ => False) w (w.alloc (.cells #[.pointer p] 22)) := (Turns.refl _ w).alloc _
  have x0 : (w.alloc (.cells #[.pointer p] 22)).cell? ⟨w.heap.size, 0, none⟩ = some (.pointer p) := cell_of_row _ _ 0 _ 22 (0, 0) (heap_alloc_new w _)
  have HT := hide hT
  clear HR hT
  go_enter Try.func13, Try.ntmps13
  go_wp2_with fail
  refine (HRR.out _ HT.out x0).mono ?_
  rintro e w2 ⟨z, rfl, hz⟩
  have HZ := hide hz
  clear hz
  go_wp2_with fail
  exact HZ.out

set_option maxRecDepth 100000 in
set_option maxHeartbeats 1000000 in
/-- onFile answers a closure over three variables of its own. -/
theorem onFile_any (p : Option Addr) (name : ByteArray) (M : Nat) (caps : Array Value) (w : World) :
    Calls Try.prog 39 #[.pointer p, .string name, .func (.func M) #[] caps] w fun e w' => e = .returned (.func (.func 73) #[] #[.pointer (some ⟨w.heap.size, 0, none⟩), .pointer (some ⟨w.heap.size + 1, 0, none⟩), .pointer (some ⟨w.heap.size + 2, 0, none⟩)]) ∧
      w'.cell? ⟨w.heap.size, 0, none⟩ = some (.pointer p) ∧ w'.cell? ⟨w.heap.size + 1, 0, none⟩ = some (.string name) ∧ w'.cell? ⟨w.heap.size + 2, 0, none⟩ = some (.func (.func M) #[] caps) ∧ Turns (fun _ => False) w w' := by
  have hmf := makeF
  have hT : Turns (fun _ => False) w (((w.alloc (.cells #[.pointer p] 22)).alloc (.cells #[.string name] 9)).alloc (.cells #[.func (.func M) #[] caps] 74)) := (((Turns.refl _ w).alloc _).alloc _).alloc _
  have x0 : (((w.alloc (.cells #[.pointer p] 22)).alloc (.cells #[.string name] 9)).alloc (.cells #[.func (.func M) #[] caps] 74)).cell? ⟨w.heap.size, 0, none⟩ = some (.pointer p) := cell_of_row _ _ 0 _ 22 (0, 0) ((heap_alloc_old _ _ (by simp; omega)).trans ((heap_alloc_old _ _ (by simp)).trans (heap_alloc_new w _)))
  have x1 : (((w.alloc (.cells #[.pointer p] 22)).alloc (.cells #[.string name] 9)).alloc (.cells #[.func (.func M) #[] caps] 74)).cell? ⟨w.heap.size + 1, 0, none⟩ = some (.string name) := cell_of_row _ _ 0 _ 9 (0, 0) ((heap_alloc_old _ _ (by simp)).trans (heap_alloc2_new w _ _))
  have x2 : (((w.alloc (.cells #[.pointer p] 22)).alloc (.cells #[.string name] 9)).alloc (.cells #[.func (.func M) #[] caps] 74)).cell? ⟨w.heap.size + 2, 0, none⟩ = some (.func (.func M) #[] caps) := by
    have := heap_alloc_new ((w.alloc (.cells #[.pointer p] 22)).alloc (.cells #[.string name] 9)) (.cells #[.func (.func M) #[] caps] 74)
    rw [show ((w.alloc (.cells #[.pointer p] 22)).alloc (.cells #[.string name] 9)).heap.size = w.heap.size + 2 by simp] at this
    exact cell_of_row _ _ 0 _ 74 (0, 0) this
  have FIN := hide (And.intro x0 (And.intro x1 (And.intro x2 hT)))
  clear x0 x1 x2 hT
  go_enter Try.func39, Try.ntmps39
  go_wp2_with fail
  go_ret
  exact ⟨rfl, FIN.out⟩

set_option maxRecDepth 100000 in
set_option maxHeartbeats 1000000 in
theorem onFile1_none (f b n pf pn pd : Nat) (D : DataW Unit) (name : ByteArray) (w : World) (h0 : w.cell? ⟨pf, 0, none⟩ = some (.pointer (some ⟨f, 0, none⟩))) (h1 : w.cell? ⟨pn, 0, none⟩ = some (.string name)) (h2 : w.cell? ⟨f, 1, none⟩ = some (.map (some b))) (hd : Dir w b n D) (hs : name.size ≤ maxLen) (hg : fileOf D name = none) :
    Calls Try.prog 73 #[.pointer (some ⟨pf, 0, none⟩), .pointer (some ⟨pn, 0, none⟩), .pointer (some ⟨pd, 0, none⟩)] w fun e w' => e = .returned (.int .i64 6) ∧ ∃ m, w' = w.drewN m := by
  have hl := fun m => Dir.look' (w := w.drewN m) hd name hs
  rw [hg] at hl
  simp only [ptrOf] at hl
  clear hd hg
  go_enter Try.func73, Try.ntmps73
  go_wp2_with fail
  go_quiet (fail)
  go_wp2_with fail
  go_ret
  exact ⟨rfl, _, rfl⟩

set_option maxRecDepth 100000 in
set_option maxHeartbeats 1000000 in
theorem onFile1_some (f b n pf pn pd g M : Nat) (caps : Array Value) (D : DataW Unit) (name : ByteArray) (w : World) (hent : ∀ w, (callFunc M (#[.pointer (some ⟨g, 0, none⟩)] ++ caps)).run Try.prog w = .ok (.enter M (#[.pointer (some ⟨g, 0, none⟩)] ++ caps)) w) (h0 : w.cell? ⟨pf, 0, none⟩ = some (.pointer (some ⟨f, 0, none⟩))) (h1 : w.cell? ⟨pn, 0, none⟩ = some (.string name)) (h2 : w.cell? ⟨f, 1, none⟩ = some (.map (some b)))
    (h3 : w.cell? ⟨pd, 0, none⟩ = some (.func (.func M) #[] caps)) (hd : Dir w b n D) (hs : name.size ≤ maxLen) (hg : fileOf D name = some g) (R : Ending → World → Prop)
    (HR : ∀ m, Calls Try.prog M (#[.pointer (some ⟨g, 0, none⟩)] ++ caps) (w.drewN m) fun e w' => ∃ z : Int, e = .returned (.int .i64 z) ∧ R (.returned (.int .i64 z)) w') :
    Calls Try.prog 73 #[.pointer (some ⟨pf, 0, none⟩), .pointer (some ⟨pn, 0, none⟩), .pointer (some ⟨pd, 0, none⟩)] w R := by
  have hl := fun m => Dir.look' (w := w.drewN m) hd name hs
  rw [hg] at hl
  simp only [ptrOf] at hl
  have HRR := hide HR
  clear hd hg HR
  go_enter Try.func73, Try.ntmps73
  go_wp2_with fail
  go_quiet (fail)
  go_wp2_with fail
  refine (HRR.out nq).mono ?_
  rintro e w2 ⟨z, rfl, hz⟩
  have HZ := hide hz
  clear hz
  go_wp2_with fail
  exact HZ.out

set_option maxRecDepth 100000 in
set_option maxHeartbeats 1000000 in
theorem sync_any (g n : Nat) (s0 : Int) (a : Option Addr) (c : Nat) (w : World) (h : w.heap[g]? = some (.cells #[.slice a n c, .int .i64 s0] 70 (0, 0))) :
    Calls Try.prog 49 #[.pointer (some ⟨g, 0, none⟩)] w fun e w' => (∃ v, e = .returned v) ∧ Tick w w' g 70 #[.slice a n c, .int .i64 (n : Nat)] := by
  have c0 : w.cell? ⟨g, 0, none⟩ = some (.slice a n c) := cell_of_row w g 0 _ 70 (0, 0) h
  have c1 : w.cell? ⟨g, 1, none⟩ = some (.int .i64 s0) := cell_of_row w g 1 _ 70 (0, 0) h
  have z1 : w.frozen? ⟨g, 1, none⟩ = false := frozen_of_row w g 1 _ 70 h
  have T := hide ((Tick.refl h).set 1 (.int .i64 (n : Nat)))
  clear h
  go_enter Try.func49, Try.ntmps49
  go_wp2_with fail
  go_end0
  exact ⟨⟨_, rfl⟩, T.out⟩
set_option maxRecDepth 100000 in
set_option maxHeartbeats 1000000 in
theorem sync1_any (g n : Nat) (s0 : Int) (a : Option Addr) (c : Nat) (w : World) (h : w.heap[g]? = some (.cells #[.slice a n c, .int .i64 s0] 70 (0, 0))) :
    Calls Try.prog 48 #[.pointer (some ⟨g, 0, none⟩)] w fun e w' => e = .returned (.int .i64 0) ∧ Tick w w' g 70 #[.slice a n c, .int .i64 (n : Nat)] := by
  have H := hide h
  clear h
  go_enter Try.func48, Try.ntmps48
  go_wp2_with fail
  refine (sync_any g n s0 a c _ H.out).mono ?_
  rintro e w1 ⟨⟨v, rfl⟩, t⟩
  have T := hide t
  clear t
  go_wp2_with fail
  go_ret
  exact ⟨rfl, T.out⟩
end Go.Proofs.Ytefjljdgdoklmaa

/-
  Append: bytes behind a file's bytes, if there is room.
-/
namespace Go.Proofs.Ytefjljdgdoklmaa
open Go.RowKit Go.Maps

/-- Bytes in a row of one's own, or none. -/
def OwnB (w : World) (v : Value) (bs : List (BitVec 8)) : Prop :=
  (bs = [] ∧ v = .slice none 0 0) ∨ ∃ (g c n : Nat), v = .slice (some ⟨g, 0, none⟩) n c ∧ n = bs.length ∧ n ≤ c ∧ RowB w g c bs
theorem OwnB.keep {S : Nat → Prop} {w w' : World} {v : Value} {bs : List (BitVec 8)} (h : OwnB w v bs) (ht : Turns S w w') (hn : ∀ k, inRow v k → ¬ S k) : OwnB w' v bs := by
  rcases h with h | ⟨g, c, n, h1, h2, h4, cs, h5, h6, h7⟩
  · exact .inl h
  · exact .inr ⟨g, c, n, h1, h2, h4, cs, ht.heap h5 (hn g ⟨n, c, h1⟩), h6, h7⟩
theorem OwnB.row {w : World} {v : Value} {bs : List (BitVec 8)} (h : OwnB w v bs) {k : Nat} (hk : inRow v k) : ∃ cs, w.heap[k]? = some (.cells cs 5 (0, 0)) := by
  obtain ⟨n', c', e⟩ := hk
  rcases h with ⟨_, h⟩ | ⟨g, c, n, h1, h2, h4, cs, h5, h6, h7⟩
  · rw [h] at e; cases e
  · rw [h1] at e; cases e; exact ⟨cs, h5⟩
theorem OwnB.bytes {w : World} {v : Value} {bs : List (BitVec 8)} (h : OwnB w v bs) : Bytes w v bs := by
  rcases h with ⟨rfl, rfl⟩ | ⟨g, c, n, rfl, rfl, _, h⟩
  · exact Bytes.empty w
  · exact RowB.bytes h rfl

/-- What append answers, onto bytes of one's own. -/
theorem append_own (w : World) (v : Value) (bs : List (BitVec 8)) (h : OwnB w v bs) (x : Value) (news : List (BitVec 8)) (hx : Bytes w x news) (hpos : 0 < news.length ∨ v ≠ .slice none 0 0) (hsm : bs.length + news.length ≤ 140737488355328) :
    ∃ (g' n' c' : Nat) (w' : World), (∀ ty, (Builtin.append_ #[28, 28] ty #[v, x]).run Try.prog w = .ok (.slice (some ⟨g', 0, none⟩) n' c') w') ∧ OwnB w' (.slice (some ⟨g', 0, none⟩) n' c') (bs ++ news) ∧ Turns (inRow v) w w' ∧ ∀ k, inRow (.slice (some ⟨g', 0, none⟩) n' c') k → inRow v k ∨ w.heap.size ≤ k := by
  obtain ⟨base, sLen, sCap, rfl, hsl, hbase⟩ : ∃ (base : Option Addr) (sLen sCap : Nat), v = .slice base sLen sCap ∧ sLen = bs.length ∧ ((base = none ∧ sLen = 0 ∧ sCap = 0 ∧ 0 < news.length) ∨ ∃ g, base = some ⟨g, 0, none⟩ ∧ 0 ≤ g ∧ sLen ≤ sCap ∧ RowB w g sCap bs) := by
    rcases h with ⟨rfl, rfl⟩ | ⟨g, c, n, rfl, rfl, h4, h5⟩
    · refine ⟨none, 0, 0, rfl, rfl, .inl ⟨rfl, rfl, rfl, ?_⟩⟩
      rcases hpos with h | h
      · exact h
      · exact absurd rfl h
    · exact ⟨_, _, _, rfl, rfl, .inr ⟨g, rfl, Nat.zero_le _, h4, h5⟩⟩
  obtain ⟨g, cp, w', hr, hg, hrow, hb, hcp, hin, hout, hkeep⟩ := append_bytes2 w 0 base sLen sCap bs hsl x news news.length rfl hx (Nat.zero_le _) hbase (by omega)
  refine ⟨g, _, cp, w', hr, .inr ⟨g, cp, _, rfl, by simp [hsl], hcp, hrow⟩, ⟨hb.os, hb.tape, hb.output, hb.size, fun k hk hn => hkeep k hk fun e => hn ⟨sLen, sCap, by rw [e]⟩⟩, fun k hk => ?_⟩
  obtain ⟨n', c', e⟩ := hk
  cases e
  rcases Nat.lt_or_ge sCap (sLen + news.length) with hc | hc
  · exact .inr (by rw [hout hc]; exact Nat.le_refl _)
  · exact .inl ⟨sLen, sCap, by rw [(hin hc).1]⟩

set_option maxRecDepth 100000 in
set_option maxHeartbeats 1000000 in
theorem append1_full (f pf pb : Nat) (x : Value) (n : Nat) (a : Option Addr) (c : Nat) (limit used : Int) (w : World) (h0 : w.cell? ⟨pf, 0, none⟩ = some (.pointer (some ⟨f, 0, none⟩))) (h1 : w.cell? ⟨pb, 0, none⟩ = some (.slice a n c))
    (h2 : w.cell? ⟨f, 0, none⟩ = some (.int .i64 limit)) (h3 : w.cell? ⟨f, 4, none⟩ = some (.int .i64 used)) (hl : 0 ≤ used ∧ used ≤ limit ∧ limit ≤ 1073741824) (hf : limit - used < (n : Int)) :
    Calls Try.prog 40 #[x, .pointer (some ⟨pb, 0, none⟩), .pointer (some ⟨pf, 0, none⟩)] w fun e w' => e = .returned (.int .i64 7) ∧ ∃ m, w' = w.drewN m := by
  go_enter Try.func40, Try.ntmps40
  go_wp2_with fail
  go_quiet (fail)
  go_wp2_with fail
  go_ret
  exact ⟨rfl, _, rfl⟩

set_option maxRecDepth 100000 in
set_option maxHeartbeats 4000000 in
theorem append1_any (f pf pb g : Nat) (cs : Array Value) (fv : Value) (s0 : Int) (bs news : List (BitVec 8)) (n : Nat) (a : Option Addr) (c : Nat) (limit used : Int) (w : World) (h0 : w.cell? ⟨pf, 0, none⟩ = some (.pointer (some ⟨f, 0, none⟩))) (h1 : w.cell? ⟨pb, 0, none⟩ = some (.slice a n c))
    (h : w.heap[f]? = some (.cells cs 57 (0, 0))) (h2 : cs[0]? = some (.int .i64 limit)) (h3 : cs[4]? = some (.int .i64 used)) (hl : 0 ≤ used ∧ used ≤ limit ∧ limit ≤ 1073741824) (hf : (n : Int) ≤ limit - used)
    (hx : w.heap[g]? = some (.cells #[fv, .int .i64 s0] 70 (0, 0))) (hown : OwnB w fv bs) (hb : Bytes w (.slice a n c) news) (hpos : 0 < n) (hbs : bs.length ≤ 1073741824) (hpg : pf ≠ g) (hbg : pb ≠ g) (hpr : ¬ inRow fv pf) (hbr : ¬ inRow fv pb) :
    Calls Try.prog 40 #[.pointer (some ⟨g, 0, none⟩), .pointer (some ⟨pb, 0, none⟩), .pointer (some ⟨pf, 0, none⟩)] w fun e w' => e = .returned (.int .i64 0) ∧ ∃ fv', w'.heap[g]? = some (.cells #[fv', .int .i64 s0] 70 (0, 0)) ∧ OwnB w' fv' (bs ++ news) ∧ w'.heap[f]? = some (.cells (cs.setIfInBounds 4 (.int .i64 (used + n))) 57 (0, 0)) ∧
      Turns (fun k => k = f ∨ k = g ∨ inRow fv k) w w' ∧ ∀ k, inRow fv' k → inRow fv k ∨ w.heap.size ≤ k := by
  have hnl := hb.len
  have hgf : g ≠ f := fun e => by rw [e, h] at hx; cases hx
  have hrow : ∀ k, inRow fv k → k ≠ f ∧ k ≠ g := fun k hk => by
    obtain ⟨cs', hc⟩ := hown.row hk
    exact ⟨fun e => (by rw [e, h] at hc; cases hc), fun e => (by rw [e, hx] at hc; cases hc)⟩
  have q0 : w.cell? ⟨f, 0, none⟩ = some (.int .i64 limit) := (cell_of_row w f 0 _ 57 (0, 0) h).trans h2
  have q4 : w.cell? ⟨f, 4, none⟩ = some (.int .i64 used) := (cell_of_row w f 4 _ 57 (0, 0) h).trans h3
  have hfw := lt_of_heap h
  have H := hide h
  have HX := hide hx
  have HO := hide hown
  have HB := hide hb
  have HRW := hide hrow
  have HNL := hide hnl
  have hfi : ¬ limit - used < (n : Int) := by omega
  clear h hx hown hb hrow hnl
  go_enter Try.func40, Try.ntmps40
  go_wp2_with fail
  go_quiet (fail)
  have r0 : (w.drewN nq).cell? ⟨pf, 0, none⟩ = some (.pointer (some ⟨f, 0, none⟩)) := h0
  have r1 : (w.drewN nq).cell? ⟨pb, 0, none⟩ = some (.slice a n c) := h1
  have t0 : Turns (fun k => k = f ∨ k = g ∨ inRow fv k) w (w.drewN nq) := (Turns.refl _ w).drewN nq
  have H1 : Hid ((w.drewN nq).heap[f]? = some (.cells cs 57 (0, 0))) := H.out
  have HX1 : Hid ((w.drewN nq).heap[g]? = some (.cells #[fv, .int .i64 s0] 70 (0, 0))) := HX.out
  have HO1 : Hid (OwnB (w.drewN nq) fv bs) := HO.out
  have HB1 : Hid (Bytes (w.drewN nq) (.slice a n c) news) := HB.out
  have hsz : (w.drewN nq).heap.size = w.heap.size := rfl
  have T0 := hide t0
  clear q0 q4 h0 h1 t0
  generalize w.drewN nq = w1 at *
  obtain ⟨g3, n3, c3, w3, hr3, ho3, t3, hin3⟩ := append_own w1.drew fv bs HO1.out (.slice a n c) news HB1.out (.inl (by have := HNL.out; omega)) (by have := HNL.out; omega)
  have y0 : w1.cell? ⟨g, 0, none⟩ = some fv := cell_of_row w1 g 0 _ 70 (0, 0) HX1.out
  have HX3 := hide (t3.heap (a := w1.drew) HX1.out (fun hk => (HRW.out g hk).2 rfl))
  have H3 := hide (t3.heap (a := w1.drew) H1.out (fun hk => (HRW.out f hk).1 rfl))
  have y3 : w3.cell? ⟨g, 0, none⟩ = some fv := cell_of_row w3 g 0 _ 70 (0, 0) HX3.out
  have z3 : w3.frozen? ⟨g, 0, none⟩ = false := frozen_of_row w3 g 0 _ 70 HX3.out
  have r03 := t3.cell (a := w1.drew) r0 hpr
  have r13 := t3.cell (a := w1.drew) r1 hbr
  have T3 := hide ((T0.out.drew).trans (t3.mono fun k _ e => .inr (.inr e)))
  have HO3 := hide ho3
  have HIN : Hid (∀ k, inRow (.slice (some ⟨g3, 0, none⟩) n3 c3) k → inRow fv k ∨ w.heap.size ≤ k) := fun k hk => by rw [← hsz]; exact hin3 k hk
  have hq := hr3 28
  clear ho3 t3 hin3 hr3
  go_wp2_with fail
  go_cut [23] from 17 to 25 (fun _ wx => wx = w3.setCell ⟨g, 0, none⟩ (.slice (some ⟨g3, 0, none⟩) n3 c3))
  case first =>
    go_region_law (first
      | (refine step_append_run rfl (.tmp 21) (.tmp 22) 28 rfl _ _ rfl rfl _ _ hq 23 rfl ?_; simp only [Act.put, List.setIfInBounds_toArray, List.set_cons_zero, List.set_cons_succ]))
    all_goals go_wp2_with fail
    all_goals go_meet
    all_goals rfl
  case rest =>
    subst hcut
    have t4 := (Tick.refl HX3.out).set 0 (.slice (some ⟨g3, 0, none⟩) n3 c3)
    have u4 := Turns.of_tick t4
    have hg3 : ∀ k, inRow (.slice (some ⟨g3, 0, none⟩) n3 c3) k → k ≠ g ∧ k ≠ f := fun k hk => by
      obtain ⟨cs', hc⟩ := HO3.out.row hk
      exact ⟨fun e => (by rw [e, HX3.out] at hc; cases hc), fun e => (by rw [e, H3.out] at hc; cases hc)⟩
    have H4 := hide (u4.heap H3.out (fun e => hgf e.symm))
    have HX4 := hide t4.1
    have HO4 := hide (HO3.out.keep u4 (fun k hk => (hg3 k hk).1))
    have T4 := hide (T3.out.trans (u4.mono fun k _ e => .inr (.inl e)))
    have r04 := u4.cell r03 hpg
    have r14 := u4.cell r13 hbg
    clear t4 u4 y0 y3 z3 r03 r13 hq r0 r1
    generalize w3.setCell ⟨g, 0, none⟩ (.slice (some ⟨g3, 0, none⟩) n3 c3) = wd at *
    have d4 : wd.cell? ⟨f, 4, none⟩ = some (.int .i64 used) := (cell_of_row wd f 4 _ 57 (0, 0) H4.out).trans h3
    have z4 : wd.frozen? ⟨f, 4, none⟩ = false := frozen_of_row wd f 4 _ 57 H4.out
    go_wp2_with fail
    go_cut [32] from 26 to 34 (fun _ wx => wx = (wd.setCell ⟨f, 4, none⟩ (.int .i64 (used + n))).drew)
    case first =>
      go_region_with (fail)
      all_goals go_wp2_with fail
      all_goals go_meet
      all_goals rw [wrapI _ (by omega) (by omega)]
    case rest =>
      subst hcut
      have t5 := ((Tick.refl H4.out).set 4 (.int .i64 (used + n))).drew
      have u5 := Turns.of_tick t5
      have FIN := hide (And.intro (u5.heap HX4.out hgf) (And.intro (HO4.out.keep u5 (fun k hk => (hg3 k hk).2)) (And.intro t5.1 (And.intro (T4.out.trans (u5.mono fun k _ e => .inl e)) HIN.out))))
      clear t5 u5
      go_wp2_with fail
      go_ret
      exact ⟨rfl, _, FIN.out⟩
end Go.Proofs.Ytefjljdgdoklmaa
