/-
  Which of two heads is ahead.
-/
import Derived.Test.YtjnpendihdlgnaaHd
namespace Go.Proofs.Ytjnpendihdlgnaa
open Go.RowKit
set_option maxRecDepth 100000
set_option maxHeartbeats 4000000
theorem less_any (g c n i j : Nat) (L : List Hd) (x y : Hd) (w : World) (hrow : HRow w g c L) (hn : n = L.length) (hi : L[i]? = some x) (hj : L[j]? = some y) (hx : HdOk w x) (hy : HdOk w y) :
    Calls Try.prog 86 #[.slice (some ⟨g, 0, none⟩) n c, .int .i64 (i : Nat), .int .i64 (j : Nat)] w fun e w' => e = .returned (.bool (decide (ltH x y))) ∧ Below w.heap.size w w' := by
  obtain ⟨a0, a1⟩ := hrow.at hi
  obtain ⟨b0, b1⟩ := hrow.at hj
  have hil := (List.getElem?_eq_some_iff.1 hi).1
  have hjl := (List.getElem?_eq_some_iff.1 hj).1
  have i1 : (i : Int) < n := by omega
  have i2 : (j : Int) < n := by omega
  have i3 : (0 : Int) ≤ i := by omega
  have i4 : (0 : Int) ≤ j := by omega
  obtain ⟨tx, hx0⟩ : ∃ t, x.R[0]? = some t := by
    have := hx.ne
    cases h : x.R with
    | nil => exact absurd h this
    | cons t r => exact ⟨t, rfl⟩
  obtain ⟨ty, hy0⟩ : ∃ t, y.R[0]? = some t := by
    have := hy.ne
    cases h : y.R with
    | nil => exact absurd h this
    | cons t r => exact ⟨t, rfl⟩
  obtain ⟨⟨xb, xo, e1, xc⟩, xk, _⟩ := hx.ents 0 tx hx0
  obtain ⟨⟨yb, yo, e2, yc⟩, yk, _⟩ := hy.ents 0 ty hy0
  have hxl : 1 ≤ x.R.length := (List.getElem?_eq_some_iff.1 hx0).1
  have hyl : 1 ≤ y.R.length := (List.getElem?_eq_some_iff.1 hy0).1
  have j1 : (0 : Int) < x.R.length := by omega
  have j2 : (0 : Int) < y.R.length := by omega
  cases e1
  cases e2
  rw [Nat.zero_mul, Nat.add_zero] at xc yc
  have x0 : w.cell? ⟨x.b, x.off, none⟩ = some (.slice tx.ka tx.e.key.length tx.kc) := xc 0 _ rfl
  have x1 : w.cell? ⟨x.b, x.off + 1, none⟩ = some (.int .u64 (tx.e.seq : Nat)) := xc 1 _ rfl
  have x2 : w.cell? ⟨x.b, x.off + 2, none⟩ = some (.int .i64 tx.e.kind) := xc 2 _ rfl
  have x3 : w.cell? ⟨x.b, x.off + 3, none⟩ = some (.slice tx.va tx.e.val.length tx.vc) := xc 3 _ rfl
  have y0 : w.cell? ⟨y.b, y.off, none⟩ = some (.slice ty.ka ty.e.key.length ty.kc) := yc 0 _ rfl
  have y1 : w.cell? ⟨y.b, y.off + 1, none⟩ = some (.int .u64 (ty.e.seq : Nat)) := yc 1 _ rfl
  have y2 : w.cell? ⟨y.b, y.off + 2, none⟩ = some (.int .i64 ty.e.kind) := yc 2 _ rfl
  have y3 : w.cell? ⟨y.b, y.off + 3, none⟩ = some (.slice ty.va ty.e.val.length ty.vc) := yc 3 _ rfl
  have HV := hide (show decide (orN (cmpE (tx.e.key, tx.e.seq) (ty.e.key, ty.e.seq)) (cmpN x.no y.no) < 0) = decide (ltH x y) by
    rw [ltH_val]
    refine decide_eq_decide.2 ?_
    unfold ltH Hd.top
    rw [hx0, hy0]
    exact Iff.rfl)
  have HC := hide (compare_any tx.ka ty.ka tx.va ty.va tx.e.key.length tx.kc tx.e.val.length tx.vc ty.e.key.length ty.kc ty.e.val.length ty.vc tx.e.kind ty.e.kind tx.e.seq ty.e.seq tx.e.key ty.e.key w.drew (xk.drewN 1) (yk.drewN 1))
  have hxc := hx.cap
  have hyc := hy.cap
  obtain ⟨xb, xo, xcp, xR, xno⟩ := x
  obtain ⟨yb, yo, ycp, yR, yno⟩ := y
  simp only at *
  generalize xR.length = xl at *
  generalize yR.length = yl at *
  obtain ⟨tka, tkc, tva, tvc, te⟩ := tx
  obtain ⟨ska, skc, sva, svc, se⟩ := ty
  simp only at *
  generalize te.key.length = tkn at *
  generalize te.val.length = tvn at *
  generalize se.key.length = skn at *
  generalize se.val.length = svn at *
  generalize hq1 : cmpE (te.key, te.seq) (se.key, se.seq) = q1 at *
  generalize hq2 : cmpN xno yno = q2 at *
  generalize te.seq = ts at *
  generalize se.seq = ss at *
  generalize te.kind = tk at *
  generalize se.kind = sk at *
  have HQ2 := hide hq2
  clear hrow hn hi hj hx hy xc yc xk yk hx0 hy0 hq1 hq2
  go_enter Try.func86, Try.ntmps86
  go_wp2_with fail
  go_region_held (fun w' => (w'.cell? ⟨g, i * 2, none⟩ = some (.slice (some ⟨xb, xo, none⟩) xl xcp) ∧ w'.cell? ⟨g, i * 2 + 1, none⟩ = some (.int .i64 (xno : Nat)) ∧ w'.cell? ⟨g, j * 2, none⟩ = some (.slice (some ⟨yb, yo, none⟩) yl ycp) ∧ w'.cell? ⟨g, j * 2 + 1, none⟩ = some (.int .i64 (yno : Nat))) ∧
     (w'.cell? ⟨xb, xo, none⟩ = some (.slice tka tkn tkc) ∧ w'.cell? ⟨xb, xo + 1, none⟩ = some (.int .u64 (ts : Nat)) ∧ w'.cell? ⟨xb, xo + 2, none⟩ = some (.int .i64 tk) ∧ w'.cell? ⟨xb, xo + 3, none⟩ = some (.slice tva tvn tvc)) ∧
     (w'.cell? ⟨yb, yo, none⟩ = some (.slice ska skn skc) ∧ w'.cell? ⟨yb, yo + 1, none⟩ = some (.int .u64 (ss : Nat)) ∧ w'.cell? ⟨yb, yo + 2, none⟩ = some (.int .i64 sk) ∧ w'.cell? ⟨yb, yo + 3, none⟩ = some (.slice sva svn svc)))
    (first | (with_reducible exact ⟨⟨a0', a1', b0', b1'⟩, ⟨x0', x1', x2', x3'⟩, ⟨y0', y1', y2', y3'⟩⟩) | (simp only [World.cell?_drew]; with_reducible exact ⟨⟨a0, a1, b0, b1⟩, ⟨x0, x1, x2, x3⟩, ⟨y0, y1, y2, y3⟩⟩) | (exact ⟨⟨alloc_keep a0' _, alloc_keep a1' _, alloc_keep b0' _, alloc_keep b1' _⟩, ⟨alloc_keep x0' _, alloc_keep x1' _, alloc_keep x2' _, alloc_keep x3' _⟩, ⟨alloc_keep y0' _, alloc_keep y1' _, alloc_keep y2' _, alloc_keep y3' _⟩⟩)) (first
    | (go_at_call 34; refine HC.out.mono ?_; rintro e w1 ⟨rfl, hb1⟩; have t1 := (Turns.refl (fun _ => False) w).drew.trans (Turns.of_below hb1 (fun _ => False)); have a0' := t1.cell a0 (fun x => x); have a1' := t1.cell a1 (fun x => x); have b0' := t1.cell b0 (fun x => x); have b1' := t1.cell b1 (fun x => x); have x0' := t1.cell x0 (fun x => x); have x1' := t1.cell x1 (fun x => x); have x2' := t1.cell x2 (fun x => x); have x3' := t1.cell x3 (fun x => x); have y0' := t1.cell y0 (fun x => x); have y1' := t1.cell y1 (fun x => x); have y2' := t1.cell y2 (fun x => x); have y3' := t1.cell y3 (fun x => x); have T1 := hide t1; clear hb1 t1)
    | (go_at_call 88; refine (cmpI_any xno yno _).mono ?_; rintro e w2 ⟨rfl, rfl⟩; rw [HQ2.out])
    | (go_at_call 50; refine (or_two w2.heap.size q1 q2 _ (by go_cell) (by go_cell)).mono ?_; rintro e w3 ⟨rfl, rfl⟩))
  all_goals go_wp2_with fail
  all_goals go_ret
  all_goals exact ⟨congrArg Ending.returned (congrArg Value.bool HV.out), (T1.out.alloc _).below (Nat.le_refl _) (fun _ x => x.elim)⟩
end Go.Proofs.Ytjnpendihdlgnaa
