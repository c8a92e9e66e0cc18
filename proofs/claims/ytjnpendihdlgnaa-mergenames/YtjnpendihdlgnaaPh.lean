/-
  A head is put behind the others.
-/
import Derived.Test.YtjnpendihdlgnaaDown
namespace Go.Proofs.Ytjnpendihdlgnaa
open Go.RowKit
set_option maxRecDepth 100000
set_option maxHeartbeats 4000000
theorem t84_size : Try.t84.size = 2 := by kernel_rfl
theorem t84_bytes : Try.t84.bytes = 32 := by kernel_rfl
theorem t84_info : Try.prog.info? 84 = some Try.t84 := by kernel_rfl
theorem t84_zero : Try.t84.zero = some (.agg #[.slice none 0 0, .int .i64 0]) := by kernel_rfl
theorem hdCells_snoc (L : List Hd) (x : Hd) : hdCells (L ++ [x]) = hdCells L ++ [x.sv, .int .i64 (x.no : Nat)] := by simp [hdCells]
theorem set_set (cs : Array Value) (o : Nat) (a b : Value) : (cs.setIfInBounds o a).setIfInBounds o b = cs.setIfInBounds o b := by
  apply Array.ext_getElem?
  intro i
  simp only [Array.getElem?_setIfInBounds, Array.size_setIfInBounds]
  split <;> rfl
/-- What append answers of one head. -/
theorem append_head (w : World) (v : Value) (L : List Hd) (hrow : (v = .slice none 0 0 ∧ L = []) ∨ ∃ g c, v = .slice (some ⟨g, 0, none⟩) L.length c ∧ HRow w g c L) (hlen : L.length ≤ 1000000) (x : Hd) (q c1 : Nat) (hq : w.heap[q]? = some (.cells #[x.sv, .int .i64 (x.no : Nat)] 84 (0, 0))) :
    ∃ (g' c' : Nat) (w' : World), (∀ ty, (Builtin.append_ #[50, 50] ty #[v, .slice (some ⟨q, 0, none⟩) 1 c1]).run Try.prog w = .ok (.slice (some ⟨g', 0, none⟩) (L.length + 1) c') w') ∧ HRow w' g' c' (L ++ [x]) ∧ Turns (inRow v) w w' ∧ (inRow v g' ∨ g' = w.heap.size) := by
  have hcell : ∀ j, w.cell? ⟨q, j, none⟩ = (#[x.sv, .int .i64 (x.no : Nat)] : Array Value)[j]? := fun j => cell_of_row w q j _ 84 (0, 0) hq
  have hsrc : Src Try.prog Try.t84.size 50 (.slice (some ⟨q, 0, none⟩) 1 c1) 1 [x.sv, .int .i64 (x.no : Nat)] w := Src.ofSlice w Try.underlying50 ⟨q, 0, none⟩ 1 c1 _ (by rw [t84_size]; rfl) (fun j u hu => by
    rw [Go.WideShapes.add_plain, Nat.zero_add, hcell j]
    simpa using hu) (fun u hu => by
    simp only [List.mem_cons, List.not_mem_nil, or_false] at hu
    rcases hu with rfl | rfl <;> rfl)
  obtain ⟨base, sLen, sCap, rfl, hsl, hbase⟩ : ∃ (base : Option Addr) (sLen sCap : Nat), v = .slice base sLen sCap ∧ sLen = L.length ∧ ((base = none ∧ sLen = 0 ∧ sCap = 0 ∧ 0 < 1) ∨ ∃ g, base = some ⟨g, 0, none⟩ ∧ 0 ≤ g ∧ sLen ≤ sCap ∧ RowC w g 84 (sCap * Try.t84.size) (hdCells L)) := by
    rcases hrow with ⟨rfl, rfl⟩ | ⟨g, c, rfl, h4, h5⟩
    · exact ⟨none, 0, 0, rfl, rfl, .inl ⟨rfl, rfl, rfl, by omega⟩⟩
    · exact ⟨_, _, _, rfl, rfl, .inr ⟨g, rfl, Nat.zero_le _, h4, by rw [t84_size]; exact h5⟩⟩
  obtain ⟨g', cp, w', hr, hg', hrw, hb, hcp, hin, hnew, hkeep⟩ := append_gen2 (P := Try.prog) w 0 50 84 Try.t84 _ Try.underlying50 t84_info t84_zero rfl base sLen sCap (hdCells L) (by rw [t84_size, hsl, hdCells_length]) _ 1 _ hsrc (Nat.zero_le _) hbase (by rw [t84_bytes]; omega) (by omega)
  subst hsl
  refine ⟨g', cp, w', hr, ⟨by simpa using hcp, ?_⟩, ⟨hb.os, hb.tape, hb.output, hb.size, fun k hk hn => hkeep k hk fun e => hn ⟨_, sCap, by rw [e]⟩⟩, ?_⟩
  · rw [t84_size] at hrw
    rw [hdCells_snoc]
    exact hrw
  · rcases Nat.lt_or_ge sCap (L.length + 1) with h1 | h1
    · exact .inr (hnew h1)
    · exact .inl ⟨_, sCap, by rw [(hin h1).1]⟩
/-- What came of the heads: some blocks turned, and where their row lies. -/
def Moved (p : Nat) (v v' : Value) (w w' : World) : Prop := Turns (fun k => k = p ∨ inRow v k) w w' ∧ ∀ k, inRow v' k → inRow v k ∨ w.heap.size ≤ k
theorem Moved.trans {p : Nat} {v v' v'' : Value} {a b c : World} (h : Moved p v v' a b) (k : Moved p v' v'' b c) : Moved p v v'' a c :=
  ⟨h.1.andThen k.1 fun i hi hs => by
    rcases hs with hs | hs
    · exact .inl hs
    · rcases h.2 i hs with x | x
      · exact .inr x
      · omega, fun i hi => by
    rcases k.2 i hi with x | x
    · exact h.2 i x
    · exact .inr (Nat.le_trans h.1.size x)⟩
theorem Moved.row {p g n c n' c' : Nat} {w w' : World} (h : Turns (fun k => k = g) w w') : Moved p (.slice (some ⟨g, 0, none⟩) n c) (.slice (some ⟨g, 0, none⟩) n' c') w w' :=
  ⟨h.mono fun k _ e => .inr ⟨n, c, by rw [e]⟩, fun k hk => .inl (by obtain ⟨_, _, e⟩ := hk; cases e; exact ⟨_, _, rfl⟩)⟩
theorem Moved.quiet {p : Nat} {v : Value} {w w' : World} (h : Turns (fun _ => False) w w') : Moved p v v w w' := ⟨h.mono fun _ _ x => x.elim, fun _ hk => .inl hk⟩
theorem push_any (S : Nat → Prop) (p o t : Nat) (cs : Array Value) (v : Value) (L : List Hd) (x : Hd) (w : World) (h : HB S w p o t cs v L) (hx : HdOk w x) (hxs : ∀ q, x.uses q → ¬ S q) (hlen : L.length < 1000000) :
    Calls Try.prog 91 #[.pointer (some ⟨p, o, none⟩), .iface 84 (.agg #[.slice (some ⟨x.b, x.off, none⟩) x.R.length x.c, .int .i64 (x.no : Nat)])] w fun e w' => ∃ g c, (∃ u, e = .returned u) ∧ HB S w' p o t cs (.slice (some ⟨g, 0, none⟩) (L.length + 1) c) (L ++ [x]) ∧ HRow w' g c (L ++ [x]) ∧ g ≠ p ∧ S g ∧ Moved p v (.slice (some ⟨g, 0, none⟩) (L.length + 1) c) w w' := by
  have hrow := h.row
  have hcell := h.cell
  obtain ⟨a, n, c, rfl⟩ : ∃ a n c, v = .slice a n c := by
    rcases hrow with ⟨rfl, _⟩ | ⟨g, c, rfl, _⟩
    · exact ⟨_, _, _, rfl⟩
    · exact ⟨_, _, _, rfl⟩
  obtain ⟨xb, xo, xc, xR, xn⟩ := x
  simp only at *
  generalize hxl : xR.length = xl at *
  have t0 : Turns (fun _ => False) w (w.drew.alloc (.cells #[.slice (some ⟨xb, xo, none⟩) xl xc, .int .i64 (xn : Nat)] 84)) := (Turns.refl _ w).drew.alloc _
  have hrow0 : (Value.slice a n c = .slice none 0 0 ∧ L = []) ∨ ∃ g c', Value.slice a n c = .slice (some ⟨g, 0, none⟩) L.length c' ∧ HRow (w.drew.alloc (.cells #[.slice (some ⟨xb, xo, none⟩) xl xc, .int .i64 (xn : Nat)] 84)) g c' L := by
    rcases hrow with e | ⟨g, c', e, h1, _⟩
    · exact .inl e
    · exact .inr ⟨g, c', e, h1.keep t0 (fun x => x)⟩
  have hq := heap_alloc_new w.drew (.cells #[.slice (some ⟨xb, xo, none⟩) xl xc, .int .i64 (xn : Nat)] 84)
  obtain ⟨g', c', w', hr, hrow', ht', hg'⟩ := append_head (w.drew.alloc (.cells #[.slice (some ⟨xb, xo, none⟩) xl xc, .int .i64 (xn : Nat)] 84)) (.slice a n c) L hrow0 (by omega) ⟨xb, xo, xc, xR, xn⟩ w.drew.heap.size 1 (by rw [hq]; simp only [Hd.sv, hxl])
  have hinp : ∀ k, inRow (.slice a n c) k → k ≠ p ∧ S k := fun k ⟨n', c', e⟩ => by
    rcases hrow with ⟨e1, _⟩ | ⟨g, c1, e1, _, h2, h3⟩
    · rw [e1] at e; cases e
    · rw [e1] at e; cases e; exact ⟨h2, h3⟩
  have hpl := lt_of_heap h.blk
  have hsz : (w.drew.alloc (.cells #[.slice (some ⟨xb, xo, none⟩) xl xc, .int .i64 (xn : Nat)] 84)).heap.size = w.heap.size + 1 := by simp
  have hgp : g' ≠ p ∧ S g' := by
    rcases hg' with e | e
    · exact hinp _ e
    · rw [hsz] at e
      exact ⟨by omega, h.up _ (by omega)⟩
  have hblk' : w'.heap[p]? = some (.cells (cs.setIfInBounds o (.slice a n c)) t (0, 0)) := ht'.heap (t0.heap h.blk (fun x => x)) fun e => (hinp p e).1 rfl
  have cellp := cell_of_row w' p o _ t (0, 0) hblk'
  rw [Array.getElem?_setIfInBounds_self_of_lt h.at'] at cellp
  have frp := frozen_of_row w' p o _ t hblk'
  have hblk2 := heap_setCell_same w' p o _ t (.slice (some ⟨g', 0, none⟩) (L.length + 1) c') hblk'
  rw [set_set] at hblk2
  have tp : Turns (fun k => k = p) w' (w'.setCell ⟨p, o, none⟩ (.slice (some ⟨g', 0, none⟩) (L.length + 1) c')) := turns_cell (Turns.refl _ _) _ _
  have hall : Turns (fun k => k = p ∨ inRow (.slice a n c) k) w (w'.setCell ⟨p, o, none⟩ (.slice (some ⟨g', 0, none⟩) (L.length + 1) c')) :=
    ((t0.mono fun _ _ x => x.elim).trans (ht'.mono fun _ _ x => .inr x)).trans (tp.mono fun _ _ x => .inl x)
  have FIN := hide (show ∃ g c1, (∃ u, Ending.returned (.tuple #[]) = .returned u) ∧ HB S (w'.setCell ⟨p, o, none⟩ (.slice (some ⟨g', 0, none⟩) (L.length + 1) c')) p o t cs (.slice (some ⟨g, 0, none⟩) (L.length + 1) c1) (L ++ [⟨xb, xo, xc, xR, xn⟩]) ∧ HRow (w'.setCell ⟨p, o, none⟩ (.slice (some ⟨g', 0, none⟩) (L.length + 1) c')) g c1 (L ++ [⟨xb, xo, xc, xR, xn⟩]) ∧ g ≠ p ∧ S g ∧ Moved p (.slice a n c) (.slice (some ⟨g, 0, none⟩) (L.length + 1) c1) w (w'.setCell ⟨p, o, none⟩ (.slice (some ⟨g', 0, none⟩) (L.length + 1) c')) by
    have hrw : HRow (w'.setCell ⟨p, o, none⟩ (.slice (some ⟨g', 0, none⟩) (L.length + 1) c')) g' c' (L ++ [⟨xb, xo, xc, xR, xn⟩]) := hrow'.keep tp hgp.1
    have hSall : ∀ k, (k = p ∨ inRow (.slice a n c) k) → S k := fun k hk => by
      rcases hk with e | e
      · rw [e]; exact h.sp
      · exact (hinp k e).2
    refine ⟨g', c', ⟨_, rfl⟩, ⟨hblk2, h.at', h.sp, fun k hk => h.up k (Nat.le_trans hall.size hk), .inr ⟨g', c', by rw [List.length_append]; rfl, hrw, hgp.1, hgp.2⟩, fun y hy => ?_, by rw [List.length_append]; simp; omega⟩, hrw, hgp.1, hgp.2, hall, fun k hk => ?_⟩
    · rcases List.mem_append.1 hy with hy | hy
      · exact ⟨(h.each y hy).1.keep hall fun q hq e => (h.each y hy).2 q hq (hSall q e), (h.each y hy).2⟩
      · obtain rfl : y = ⟨xb, xo, xc, xR, xn⟩ := by simpa using hy
        exact ⟨hx.keep hall fun q hq e => hxs q hq (hSall q e), hxs⟩
    · obtain ⟨_, _, e⟩ := hk
      cases e
      rcases hg' with x | x
      · exact .inl x
      · rw [hsz] at x
        exact .inr (by omega))
  have hta : ∀ w, (Instr.typeAssert (.iface 84 (.agg #[.slice (some ⟨xb, xo, none⟩) xl xc, .int .i64 (xn : Nat)])) 20 84 false).run Try.prog w = .ok (.agg #[.slice (some ⟨xb, xo, none⟩) xl xc, .int .i64 (xn : Nat)]) w := fun w => by kernel_rfl
  have HA := hide hr
  have SK := hide (show w.drew.cell? ⟨p, o, none⟩ = some (.slice a n c) from hcell)
  have DR := hide (show w.drew.heap.size = w.heap.size from rfl)
  rw [DR.out] at HA
  clear h hrow hx hxs t0 hrow0 hq hr hrow' ht' hg' hinp hsz hgp hblk' hblk2 tp hall hxl hcell
  go_enter Try.func91, Try.ntmps91
  go_upto_region 0 with (fail)
  refine wp_region_z_drew 7 (S := fun u => u.cell? ⟨p, o, none⟩ = some (.slice a n c)) (by kernel_rfl) SK.out (fun _ => ?_)
  change wpAnyZ _ _ _ _ _ _ 10 (Array.replicate 10 false) _ _
  refine wpAnyZ_late (i := 0) (oi := { dst := some 4, op := Op.move (Operand.tmp 0), type := 82, pos := "heads.go:84", after := #[], guard := none }) (v := .pointer (some ⟨p, o, none⟩)) rfl (by kernel_rfl) (by kernel_rfl) (by kernel_rfl) (by kernel_rfl) (fun _ _ _ h => h) (Or.inl ⟨by rfl, ?_⟩) (.inr SK.out) ?_
  · rintro w -
    go_simp
  simp only [Act.put, List.setIfInBounds_toArray, List.set_cons_zero, List.set_cons_succ]
  refine wpAnyZ_late (i := 1) (oi := { dst := some 5, op := Op.move (Operand.tmp 0), type := 82, pos := "heads.go:84", after := #[], guard := none }) (v := .pointer (some ⟨p, o, none⟩)) rfl (by kernel_rfl) (by kernel_rfl) (by kernel_rfl) (by kernel_rfl) (fun _ _ _ h => h) (Or.inl ⟨by rfl, ?_⟩) (.inr SK.out) ?_
  · rintro w -
    go_simp
  simp only [Act.put, List.setIfInBounds_toArray, List.set_cons_zero, List.set_cons_succ]
  refine wpAnyZ_late (i := 2) (oi := { dst := some 6, op := Op.nilCheck (Operand.tmp 5), type := 0, pos := "heads.go:84", after := #[{ on := 1, ground := Ground.data }], guard := none }) (v := .pointer (some ⟨p, o, none⟩)) rfl (by kernel_rfl) (by kernel_rfl) (by kernel_rfl) (by kernel_rfl) (fun _ _ _ h => h) (Or.inl ⟨by rfl, ?_⟩) (.inr SK.out) ?_
  · rintro w -
    go_simp
  simp only [Act.put, List.setIfInBounds_toArray, List.set_cons_zero, List.set_cons_succ]
  refine wpAnyZ_take (i := 3) (oi := { dst := some 7, op := Op.load 50 (Operand.tmp 6), type := 50, pos := "heads.go:84", after := #[{ on := 2, ground := Ground.data }], guard := none }) (v := .slice a n c) rfl (by kernel_rfl) (by kernel_rfl) (by kernel_rfl) (by kernel_rfl) (fun _ _ _ h => h) (Or.inl ⟨by rfl, ?_⟩) SK.out ?_
  · rintro w hc
    go_simp
  simp only [Act.put, List.setIfInBounds_toArray, List.set_cons_zero, List.set_cons_succ]
  refine wpAnyZ_late (i := 4) (oi := { dst := some 8, op := Op.move (Operand.tmp 1), type := 20, pos := "heads.go:84", after := #[], guard := none }) (v := .iface 84 (.agg #[.slice (some ⟨xb, xo, none⟩) xl xc, .int .i64 (xn : Nat)])) rfl (by kernel_rfl) (by kernel_rfl) (by kernel_rfl) (by kernel_rfl) (fun _ _ _ h => h) (Or.inl ⟨by rfl, ?_⟩) (.inr SK.out) ?_
  · rintro w -
    go_simp
  simp only [Act.put, List.setIfInBounds_toArray, List.set_cons_zero, List.set_cons_succ]
  refine wpAnyZ_late (i := 5) (oi := { dst := some 9, op := Op.typeAssert (Operand.tmp 8) 20 84 false, type := 84, pos := "heads.go:84", after := #[{ on := 4, ground := Ground.data }], guard := none }) (v := .agg #[.slice (some ⟨xb, xo, none⟩) xl xc, .int .i64 (xn : Nat)]) rfl (by kernel_rfl) (by kernel_rfl) (by kernel_rfl) (by kernel_rfl) (fun _ _ _ h => h) (Or.inl ⟨by rfl, ?_⟩) (.inr SK.out) ?_
  · rintro w -
    go_simp
  simp only [Act.put, List.setIfInBounds_toArray, List.set_cons_zero, List.set_cons_succ]
  refine wpAnyZ_ready (rs := [6]) (by kernel_rfl) (by simp) ?_
  refine AllReadyZ.cons rfl (fun K hK => ?_) AllReadyZ.nil
  go_simp
  refine hK.out _ _ (alloc_keep SK.out _) (fun _ => ?_)
  clear hK K
  rw [show (w.alloc (.cells #[.slice (some ⟨xb, xo, none⟩) xl xc, .int .i64 (xn : Nat)] 84)).drew = w.drew.alloc (.cells #[.slice (some ⟨xb, xo, none⟩) xl xc, .int .i64 (xn : Nat)] 84) from rfl]
  generalize hV1 : w.drew.alloc (.cells #[.slice (some ⟨xb, xo, none⟩) xl xc, .int .i64 (xn : Nat)] 84) = V1 at *
  generalize hG1 : w.heap.size = G1 at *
  refine wpAnyZ_ready (rs := [7]) (by kernel_rfl) (by simp) ?_
  refine AllReadyZ.free rfl (by kernel_rfl) (fun K hK => ?_) AllReadyZ.nil
  refine step_append_run rfl (.tmp 7) (.tmp 10) 50 rfl (.slice a n c) (.slice (some ⟨G1, 0, none⟩) 1 1) rfl rfl _ _ (HA.out _) _ rfl ?_
  refine hK.out _ _ ?_
  clear hK K
  refine wpAnyZ_late (i := 8) (oi := { dst := some 12, op := Op.nilCheck (Operand.tmp 4), type := 0, pos := "heads.go:84", after := #[{ on := 0, ground := Ground.data }, { on := 0, ground := Ground.phase }, { on := 1, ground := Ground.phase }, { on := 2, ground := Ground.phase }, { on := 3, ground := Ground.phase }, { on := 4, ground := Ground.phase }, { on := 5, ground := Ground.phase }, { on := 6, ground := Ground.phase }, { on := 7, ground := Ground.phase }], guard := none }) (v := .pointer (some ⟨p, o, none⟩)) rfl (by kernel_rfl) (by kernel_rfl) (by kernel_rfl) (by kernel_rfl) (fun _ _ _ h => h) (Or.inl ⟨by rfl, ?_⟩) (.inl (by kernel_rfl)) ?_
  · rintro w -
    go_simp
  simp only [Act.put, List.setIfInBounds_toArray, List.set_cons_zero, List.set_cons_succ]
  refine wpAnyZ_ready (rs := [9]) (by kernel_rfl) (by simp) ?_
  refine AllReadyZ.free rfl (by kernel_rfl) (fun K hK => ?_) AllReadyZ.nil
  go_simp
  refine hK.out _ _ ?_
  clear hK K
  refine wpAnyZ_done (by kernel_rfl) ?_ _
  go_wp2_with fail
  go_end0
  exact FIN.out
end Go.Proofs.Ytjnpendihdlgnaa
