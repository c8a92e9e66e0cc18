/-
  The last head is taken away.
-/
import Derived.Test.YtjnpendihdlgnaaPh
namespace Go.Proofs.Ytjnpendihdlgnaa
open Go.RowKit
set_option maxRecDepth 100000
set_option maxHeartbeats 4000000
theorem RowC.pre {w : World} {g e room : Nat} {a b : List Value} (h : RowC w g e room b) (hl : a.length ≤ b.length) (hk : ∀ k, k < a.length → b[k]? = a[k]?) : RowC w g e room a := by
  obtain ⟨cs, h1, h2, h3⟩ := h
  exact ⟨cs, h1, h2, fun k hk' => (h3 k (by omega)).trans (hk k hk')⟩
theorem pop_any (S : Nat → Prop) (p o t g c m : Nat) (cs : Array Value) (L : List Hd) (x : Hd) (w : World) (hm : m = L.length) (h : HB S w p o t cs (.slice (some ⟨g, 0, none⟩) (m + 1) c) (L ++ [x])) (hrow : HRow w g c (L ++ [x])) (hgp : g ≠ p) (hsg : S g) :
    Calls Try.prog 90 #[.pointer (some ⟨p, o, none⟩)] w fun e w' => e = .returned (.iface 84 (.agg #[.slice (some ⟨x.b, x.off, none⟩) x.R.length x.c, .int .i64 (x.no : Nat)])) ∧ HB S w' p o t cs (.slice (some ⟨g, 0, none⟩) m c) L ∧ HRow w' g c L ∧ Moved p (.slice (some ⟨g, 0, none⟩) (m + 1) c) (.slice (some ⟨g, 0, none⟩) m c) w w' := by
  have hcell := h.cell
  have hx : (L ++ [x])[m]? = some x := by rw [hm]; simp
  obtain ⟨a0, a1⟩ := hrow.at hx
  have hmc : m + 1 ≤ c := by have := hrow.1; rw [List.length_append] at this; simp at this; omega
  have hlen : (m : Int) ≤ 1000000 := by have := h.len; rw [List.length_append] at this; simp at this; omega
  have z0 := hrow.frozen (m * 2)
  have z1 := hrow.frozen (m * 2 + 1)
  have T0 := hide ((Turns.refl (fun _ => False) w).alloc (.cells #[.slice (some ⟨x.b, x.off, none⟩) x.R.length x.c, .int .i64 (x.no : Nat)] 84))
  have hgl := hrow.lt
  obtain ⟨w0, hw0⟩ : ∃ w0, w0 = w.alloc (.cells #[.slice (some ⟨x.b, x.off, none⟩) x.R.length x.c, .int .i64 (x.no : Nat)] 84) := ⟨_, rfl⟩
  rw [← hw0] at T0
  have hnew : w0.heap[w.heap.size]? = some (.cells #[.slice (some ⟨x.b, x.off, none⟩) x.R.length x.c, .int .i64 (x.no : Nat)] 84 (0, 0)) := by rw [hw0]; exact heap_alloc_new w _
  have R0 := hrow.keep T0.out (fun x => x)
  have B0 := h.quiet T0.out
  have hr2 : RowC ((w0.setCell ⟨g, m * 2, none⟩ (.slice none 0 0)).setCell ⟨g, m * 2 + 1, none⟩ (.int .i64 0)) g 84 (c * 2) (hdCells L) := by
    refine (((R0.2.set (m * 2) _).set (m * 2 + 1) _)).pre ?_ fun k hk => ?_
    · simp only [List.length_set, hdCells_length, List.length_append]; simp; omega
    · rw [hdCells_length] at hk
      rw [List.getElem?_set_ne (by omega), List.getElem?_set_ne (by omega), hdCells_snoc, List.getElem?_append_left (by rw [hdCells_length]; omega)]
  have t2 : Turns (fun k => k = g) w0 ((w0.setCell ⟨g, m * 2, none⟩ (.slice none 0 0)).setCell ⟨g, m * 2 + 1, none⟩ (.int .i64 0)) := turns_cell (turns_cell (Turns.refl _ _) _ _) _ _
  have R2 : HRow ((w0.setCell ⟨g, m * 2, none⟩ (.slice none 0 0)).setCell ⟨g, m * 2 + 1, none⟩ (.int .i64 0)) g c L := ⟨by omega, hr2⟩
  have hblk2 := t2.heap B0.blk (Ne.symm hgp)
  have hnew2 := t2.heap hnew (by show ¬ w.heap.size = g; omega)
  generalize hw2 : (w0.setCell ⟨g, m * 2, none⟩ (.slice none 0 0)).setCell ⟨g, m * 2 + 1, none⟩ (.int .i64 0) = w2 at *
  have hblk3 := heap_setCell_same w2 p o _ t (.slice (some ⟨g, 0, none⟩) m c) hblk2
  rw [set_set] at hblk3
  have t3 : Turns (fun k => k = p) w2 (w2.setCell ⟨p, o, none⟩ (.slice (some ⟨g, 0, none⟩) m c)) := turns_cell (Turns.refl _ _) _ _
  have hall : Turns (fun k => k = p ∨ inRow (.slice (some ⟨g, 0, none⟩) (m + 1) c) k) w (w2.setCell ⟨p, o, none⟩ (.slice (some ⟨g, 0, none⟩) m c)) :=
    ((T0.out.mono fun _ _ x => x.elim).trans (t2.mono fun k _ e => .inr ⟨_, _, by rw [e]⟩)).trans (t3.mono fun _ _ e => .inl e)
  have hrw := R2.keep t3 hgp
  have FIN := hide (show HB S (w2.setCell ⟨p, o, none⟩ (.slice (some ⟨g, 0, none⟩) m c)) p o t cs (.slice (some ⟨g, 0, none⟩) m c) L ∧ HRow (w2.setCell ⟨p, o, none⟩ (.slice (some ⟨g, 0, none⟩) m c)) g c L ∧ Moved p (.slice (some ⟨g, 0, none⟩) (m + 1) c) (.slice (some ⟨g, 0, none⟩) m c) w (w2.setCell ⟨p, o, none⟩ (.slice (some ⟨g, 0, none⟩) m c)) by
    refine ⟨⟨hblk3, h.at', h.sp, fun k hk => h.up k (Nat.le_trans hall.size hk), .inr ⟨g, c, by rw [hm], hrw, hgp, hsg⟩, fun y hy => ?_, ?_⟩, hrw, hall, fun k hk => .inl ?_⟩
    · have := h.each y (List.mem_append_left _ hy)
      refine ⟨this.1.keep hall fun q hq e => this.2 q hq ?_, this.2⟩
      rcases e with e | ⟨_, _, e⟩
      · rw [e]; exact h.sp
      · cases e; exact hsg
    · have := h.len; rw [List.length_append] at this; omega
    · obtain ⟨_, _, e⟩ := hk
      cases e; exact ⟨_, _, rfl⟩)
  have hcell0 := B0.cell
  have z2 := R0.frozen (m * 2)
  have z3 := R0.frozen (m * 2 + 1)
  obtain ⟨b0, b1⟩ := R0.at hx
  have hcell2 : w2.cell? ⟨p, o, none⟩ = some (.slice (some ⟨g, 0, none⟩) (m + 1) c) := by rw [cell_of_row w2 p o _ t (0, 0) hblk2]; exact Array.getElem?_setIfInBounds_self_of_lt h.at'
  have z4 := frozen_of_row w2 p o _ t hblk2
  have hnew3 := t3.heap hnew2 (by have := lt_of_heap h.blk; show ¬ w.heap.size = p; omega)
  have c0 := cell_of_row (w2.setCell ⟨p, o, none⟩ (.slice (some ⟨g, 0, none⟩) m c)) w.heap.size 0 _ 84 (0, 0) hnew3
  have c1 := cell_of_row (w2.setCell ⟨p, o, none⟩ (.slice (some ⟨g, 0, none⟩) m c)) w.heap.size 1 _ 84 (0, 0) hnew3
  have HW0 := hide hw0
  have HW2 := hide hw2
  have C0 := hide c0
  have C1 := hide c1
  clear h hrow hm hx T0 hgl hw0 hnew R0 B0 hr2 t2 R2 hblk2 hnew2 hblk3 t3 hall hrw hnew3 hw2 c0 c1
  obtain ⟨xb, xo, xc, xR, xn⟩ := x
  simp only at *
  generalize xR.length = xl at *
  go_enter Try.func90, Try.ntmps90
  go_upto_region 3 with (fail)
  rw [← HW0.out]
  go_upto_region 4 with (fail)
  rw [HW2.out]
  go_upto_region 5 with (fail)
  have c0 := C0.out
  have c1 := C1.out
  go_wp2_with fail
  go_ret
  exact ⟨rfl, FIN.out⟩
end Go.Proofs.Ytjnpendihdlgnaa
