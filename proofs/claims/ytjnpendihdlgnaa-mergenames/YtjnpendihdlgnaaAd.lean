/-
  The first of the heads, and going by it.
-/
import Derived.Test.YtjnpendihdlgnaaHq
namespace Go.Proofs.Ytjnpendihdlgnaa
open Go.RowKit
set_option maxRecDepth 100000
set_option maxHeartbeats 4000000
/-- A head that has gone by its first entry. -/
def adv (h : Hd) : Option Hd := match h.R with
  | _ :: y :: r => some ⟨h.b, h.off + 4, h.c - 1, y :: r, h.no⟩
  | _ => none
theorem hd_cells {w : World} {x : Hd} {y : Tow} {r : List Tow} (hx : HdOk w x) (hR : x.R = y :: r) :
    (w.cell? ⟨x.b, x.off, none⟩ = some (.slice y.ka y.e.key.length y.kc) ∧ w.cell? ⟨x.b, x.off + 1, none⟩ = some (.int .u64 (y.e.seq : Nat)) ∧ w.cell? ⟨x.b, x.off + 2, none⟩ = some (.int .i64 y.e.kind) ∧ w.cell? ⟨x.b, x.off + 3, none⟩ = some (.slice y.va y.e.val.length y.vc)) ∧ Bytes w (.slice y.ka y.e.key.length y.kc) y.e.key ∧ Bytes w (.slice y.va y.e.val.length y.vc) y.e.val := by
  obtain ⟨⟨b, off, e1, hc⟩, h1, h2⟩ := hx.ents 0 y (by rw [hR]; rfl)
  cases e1
  rw [Nat.zero_mul, Nat.add_zero] at hc
  exact ⟨⟨hc 0 _ rfl, hc 1 _ rfl, hc 2 _ rfl, hc 3 _ rfl⟩, h1, h2⟩
theorem HdOk.adv {w : World} {x : Hd} {y z : Tow} {r : List Tow} (hx : HdOk w x) (hR : x.R = y :: z :: r) : HdOk w ⟨x.b, x.off + 4, x.c - 1, z :: r, x.no⟩ := by
  have hc := hx.cap
  have hs := hx.size
  rw [hR] at hc hs
  simp only [List.length_cons] at hc hs
  refine ⟨by simp, fun k u hu => ?_, by simp only [List.length_cons]; omega, by simp only [List.length_cons]; omega, hx.no⟩
  obtain ⟨⟨b, off, e1, hcc⟩, h1, h2⟩ := hx.ents (k + 1) u (by rw [hR]; exact hu)
  cases e1
  refine ⟨⟨_, _, rfl, fun j v hv => ?_⟩, h1, h2⟩
  have := hcc j v hv
  rw [show x.off + (k + 1) * 4 + j = x.off + 4 + k * 4 + j by omega] at this
  exact this
theorem first_any (g c n : Nat) (L : List Hd) (x : Hd) (y : Tow) (r : List Tow) (w : World) (hrow : HRow w g c L) (hn : n = L.length) (h0 : L[0]? = some x) (hx : HdOk w x) (hR : x.R = y :: r) :
    Calls Try.prog 45 #[.slice (some ⟨g, 0, none⟩) n c] w fun e w' => e = .returned (.agg #[.slice y.ka y.e.key.length y.kc, .int .u64 (y.e.seq : Nat), .int .i64 y.e.kind, .slice y.va y.e.val.length y.vc]) ∧ Below w.heap.size w w' := by
  obtain ⟨a0, a1⟩ := hrow.at h0
  rw [Nat.zero_mul] at a0
  obtain ⟨⟨c0, c1, c2, c3⟩, _, _⟩ := hd_cells hx hR
  have i1 : (0 : Int) < n := by have := (List.getElem?_eq_some_iff.1 h0).1; omega
  have hl : x.R.length = r.length + 1 := by rw [hR]; rfl
  rw [hl] at a0
  clear hrow hn h0 hx hR a1 hl
  obtain ⟨xb, xo, xc, xR, xn⟩ := x
  simp only at *
  generalize r.length = rl at *
  generalize y.e.key.length = kn at *
  generalize y.e.val.length = vn at *
  have T0 := hide ((Turns.refl (fun _ => False) w).alloc (.cells #[.slice none 0 0, .int .u64 0, .int .i64 0, .slice none 0 0] 25))
  have a0' := T0.out.cell a0 (fun x => x)
  have c0' := T0.out.cell c0 (fun x => x)
  have c1' := T0.out.cell c1 (fun x => x)
  have c2' := T0.out.cell c2 (fun x => x)
  have c3' := T0.out.cell c3 (fun x => x)
  have B1 := hide ((Below.refl w.heap.size w).alloc (Nat.le_refl _) (.cells #[.slice y.ka kn y.kc, .int .u64 (y.e.seq : Nat), .int .i64 y.e.kind, .slice y.va vn y.vc] 25))
  go_enter Try.func45, Try.ntmps45
  go_wp2_with fail
  refine bodyPost_ret (v := .agg #[.slice y.ka kn y.kc, .int .u64 (y.e.seq : Nat), .int .i64 y.e.kind, .slice y.va vn y.vc]) ?_ rfl ?_
  · exact results_cell_row Try.results45 _ _ _ _ _ _ _ rfl (heap_alloc_new w _) Try.underlying25 rfl info29
  · exact ⟨rfl, B1.out⟩
theorem advance_any (S : Nat → Prop) (p o t : Nat) (cs : Array Value) (v : Value) (L : List Hd) (x : Hd) (w : World) (h : HB S w p o t cs v (x :: L)) (hh : Hp.Heap ltH (hf (x :: L)) (L.length + 1)) :
    Calls Try.prog 60 #[.pointer (some ⟨p, o, none⟩)] w fun e w' => ∃ v' L', (∃ u, e = .returned u) ∧ HB S w' p o t cs v' L' ∧ L'.Perm ((adv x).toList ++ L) ∧ Hp.Heap ltH (hf L') L'.length ∧ Moved p v v' w w' := by
  obtain ⟨g, c, rfl, hR, hgp, hsg⟩ := h.full (by simp)
  have hcell := h.cell
  have hx := h.each x (by simp)
  obtain ⟨a0, a1⟩ := hR.at (i := 0) (x := x) rfl
  rw [Nat.zero_mul] at a0 a1
  have z0 := hR.frozen 0
  have hxc := hx.1.cap
  have hxs := hx.1.size
  have i1 : (0 : Int) < ((x :: L).length : Nat) := by simp only [List.length_cons]; omega
  have H0 := hide h
  have HH := hide hh
  have R0 := hide hR
  have X0 := hide hx
  obtain ⟨y, r, hxr⟩ : ∃ y r, x.R = y :: r := by
    have := hx.1.ne
    cases e : x.R with
    | nil => exact absurd e this
    | cons y r => exact ⟨y, r, rfl⟩
  have HXR := hide hxr
  clear h hh hR hx
  cases r with
  | nil =>
    rw [hxr] at a0 hxc hxs
    have HP := hide (hpop_any S p o t cs _ (x :: L) w H0.out HH.out (by simp))
    generalize hn : (x :: L).length = n at *
    have HN := hide hn
    clear hn hxr
    go_enter Try.func60, Try.ntmps60
    go_wp2_with fail
    refine HP.out.mono ?_
    rintro e w1 ⟨v', L', ⟨u, rfl⟩, hB, hP, hH, hM⟩
    have FIN := hide (show HB S w1 p o t cs v' L' ∧ L'.Perm ((adv x).toList ++ L) ∧ Hp.Heap ltH (hf L') L'.length ∧ Moved p (.slice (some ⟨g, 0, none⟩) n c) v' w w1 by
      refine ⟨hB, ?_, hH, hM⟩
      have e1 : adv x = none := by unfold adv; rw [HXR.out]
      rw [e1]
      have h1 : (L' ++ [x]).Perm (x :: L) := hP
      exact (List.perm_cons x).1 ((List.perm_append_comm (l₁ := [x]) (l₂ := L')).trans h1))
    clear hB hP hH hM
    go_wp2_with fail
    refine bodyPost_ret (results_none rfl _ _ _) rfl ?_
    exact ⟨v', L', ⟨_, rfl⟩, FIN.out⟩
  | cons z r =>
    rw [hxr] at a0 hxc hxs
    simp only [List.length_cons] at hxc hxs
    have hb1 : ∀ q, (⟨x.b, x.off + 4, x.c - 1, z :: r, x.no⟩ : Hd).uses q → x.uses q := fun q hq => by
      rcases hq with e | ⟨t, ht, hb⟩
      · exact .inl e
      · exact .inr ⟨t, by rw [HXR.out]; exact List.mem_cons_of_mem _ ht, hb⟩
    have ht : Turns (fun k => k = g) w (w.setCell ⟨g, 0, none⟩ (.slice (some ⟨x.b, x.off + 4, none⟩) (r.length + 1) (x.c - 1))) := turns_cell (Turns.refl _ _) _ _
    have hcs : hdCells (⟨x.b, x.off + 4, x.c - 1, z :: r, x.no⟩ :: L) = (hdCells (x :: L)).set 0 (.slice (some ⟨x.b, x.off + 4, none⟩) (r.length + 1) (x.c - 1)) := rfl
    have hrow1 : HRow (w.setCell ⟨g, 0, none⟩ (.slice (some ⟨x.b, x.off + 4, none⟩) (r.length + 1) (x.c - 1))) g c (⟨x.b, x.off + 4, x.c - 1, z :: r, x.no⟩ :: L) := ⟨R0.out.1, by rw [hcs]; exact R0.out.2.set _ _⟩
    have hB1 : HB S (w.setCell ⟨g, 0, none⟩ (.slice (some ⟨x.b, x.off + 4, none⟩) (r.length + 1) (x.c - 1))) p o t cs (.slice (some ⟨g, 0, none⟩) (x :: L).length c) (⟨x.b, x.off + 4, x.c - 1, z :: r, x.no⟩ :: L) := by
      refine ⟨ht.heap H0.out.blk (Ne.symm hgp), H0.out.at', H0.out.sp, fun k hk => H0.out.up k (Nat.le_trans ht.size hk), .inr ⟨g, c, rfl, hrow1, hgp, hsg⟩, fun u hu => ?_, H0.out.len⟩
      rcases List.mem_cons.1 hu with rfl | hu
      · exact ⟨(X0.out.1.adv HXR.out).keep ht fun q hq e => X0.out.2 q (hb1 q hq) (e ▸ hsg), fun q hq => X0.out.2 q (hb1 q hq)⟩
      · have := H0.out.each u (List.mem_cons_of_mem _ hu)
        exact ⟨this.1.keep ht fun q hq e => this.2 q hq (e ▸ hsg), this.2⟩
    have HP := hide (hfix_any S p o t cs _ _ _ hB1 (Hp.heap_top (f := hf (x :: L)) (by exact HH.out) (fun k k0 kn => by
      cases k with
      | zero => omega
      | succ k => rfl)) (by simp))
    have M1 := hide (Moved.row (p := p) (n := (x :: L).length) (c := c) (n' := (x :: L).length) (c' := c) ht)
    clear hb1 ht hcs hrow1 hB1
    have hl : (z :: r).length = r.length + 1 := rfl
    have hxc1 : (1 : Int) ≤ (x.c : Int) := by omega
    have hxc2 : (r.length : Int) + 1 + 1 ≤ (x.c : Int) := by omega
    have hsub : (((x.c : Int) - 1).toNat) = x.c - 1 := by omega
    have HSUB := hide hsub
    simp only [List.length_cons] at a0
    generalize hn : (x :: L).length = n at *
    have HN := hide hn
    have rl : (r.length : Int) ≤ 1000000 := by omega
    clear hn hxr hl hsub
    go_enter Try.func60, Try.ntmps60
    go_upto_region 4 with (fail)
    go_wp2_with fail
    refine HP.out.mono ?_
    rintro e w1 ⟨L', ⟨u, rfl⟩, hB, hP, hH, hM⟩
    have FIN := hide (show HB S w1 p o t cs (.slice (some ⟨g, 0, none⟩) n c) L' ∧ L'.Perm ((adv x).toList ++ L) ∧ Hp.Heap ltH (hf L') L'.length ∧ Moved p (.slice (some ⟨g, 0, none⟩) n c) (.slice (some ⟨g, 0, none⟩) n c) w w1 by
      refine ⟨hB, ?_, hH, M1.out.trans hM⟩
      have e1 : adv x = some ⟨x.b, x.off + 4, x.c - 1, z :: r, x.no⟩ := by unfold adv; rw [HXR.out]
      rw [e1]
      exact hP)
    clear hB hP hH hM
    go_wp2_with fail
    go_end0
    exact ⟨_, L', ⟨_, rfl⟩, FIN.out⟩
end Go.Proofs.Ytjnpendihdlgnaa
