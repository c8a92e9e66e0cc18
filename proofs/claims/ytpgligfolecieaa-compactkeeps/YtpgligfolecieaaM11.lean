import Derived.Test.YtpgligfolecieaaM10
/-
  The last head is taken away.
-/
namespace Go.Proofs.Ytpgligfolecieaa
open Go.RowKit
set_option maxRecDepth 100000
set_option maxHeartbeats 4000000
theorem RowC.pre {w : World} {g e room : Nat} {a b : List Value} (h : RowC w g e room b) (hl : a.length ≤ b.length) (hk : ∀ k, k < a.length → b[k]? = a[k]?) : RowC w g e room a := by
  obtain ⟨cs, h1, h2, h3⟩ := h
  exact ⟨cs, h1, h2, fun k hk' => (h3 k (by omega)).trans (hk k hk')⟩
theorem pop_any (S : Nat → Prop) (p o t g c m : Nat) (cs : Array Value) (L : List Hd) (x : Hd) (w : World) (hm : m = L.length) (h : HB S w p o t cs (.slice (some ⟨g, 0, none⟩) (m + 1) c) (L ++ [x])) (hrow : HRow w g c (L ++ [x])) (hgp : g ≠ p) (hsg : S g) :
    Calls Try.prog 105 #[.pointer (some ⟨p, o, none⟩)] w fun e w' => e = .returned (.iface 94 (.agg #[.slice (some ⟨x.b, x.off, none⟩) x.R.length x.c, .int .i64 (x.no : Nat)])) ∧ HB S w' p o t cs (.slice (some ⟨g, 0, none⟩) m c) L ∧ HRow w' g c L ∧ Moved p (.slice (some ⟨g, 0, none⟩) (m + 1) c) (.slice (some ⟨g, 0, none⟩) m c) w w' := by
  have hcell := h.cell
  have hx : (L ++ [x])[m]? = some x := by rw [hm]; simp
  obtain ⟨a0, a1⟩ := hrow.at hx
  have hmc : m + 1 ≤ c := by have := hrow.1; rw [List.length_append] at this; simp at this; omega
  have hlen : (m : Int) ≤ 1000000 := by have := h.len; rw [List.length_append] at this; simp at this; omega
  have z0 := hrow.frozen (m * 2)
  have z1 := hrow.frozen (m * 2 + 1)
  have T0 := hide ((Turns.refl (fun _ => False) w).alloc (.cells #[.slice (some ⟨x.b, x.off, none⟩) x.R.length x.c, .int .i64 (x.no : Nat)] 94))
  have hgl := hrow.lt
  obtain ⟨w0, hw0⟩ : ∃ w0, w0 = w.alloc (.cells #[.slice (some ⟨x.b, x.off, none⟩) x.R.length x.c, .int .i64 (x.no : Nat)] 94) := ⟨_, rfl⟩
  rw [← hw0] at T0
  have hnew : w0.heap[w.heap.size]? = some (.cells #[.slice (some ⟨x.b, x.off, none⟩) x.R.length x.c, .int .i64 (x.no : Nat)] 94 (0, 0)) := by rw [hw0]; exact heap_alloc_new w _
  have R0 := hrow.keep T0.out (fun x => x)
  have B0 := h.quiet T0.out
  have hr2 : RowC ((w0.setCell ⟨g, m * 2, none⟩ (.slice none 0 0)).setCell ⟨g, m * 2 + 1, none⟩ (.int .i64 0)) g 94 (c * 2) (hdCells L) := by
    refine (((R0.2.set (m * 2) _).set (m * 2 + 1) _)).pre ?_ fun k hk => ?_
    · simp only [List.length_set, hdCells_length, List.length_append]; simp; omega
    · rw [hdCells_length] at hk
      rw [List.getElem?_set_ne (by omega), List.getElem?_set_ne (by omega), hdCells_snoc, List.getElem?_append_left (by rw [hdCells_length]; omega)]
  have t2 : Turns (fun k => k = g) w0 ((w0.setCell ⟨g, m * 2, none⟩ (.slice none 0 0)).setCell ⟨g, m * 2 + 1, none⟩ (.int .i64 0)) := turns_cell (turns_cell (Turns.refl _ _) _ _) _ _
  have R2 : HRow ((w0.setCell ⟨g, m * 2, none⟩ (.slice none 0 0)).setCell ⟨g, m * 2 + 1, none⟩ (.int .i64 0)) g c L := ⟨by omega, hr2⟩
  have hblk2 := t2.heap B0.blk (Ne.symm hgp)
  have hnew2 := t2.heap hnew (by show ¬ w.heap.size = g; omega)
  generalize hw2 : (w0.setCell ⟨g, m * 2, none⟩ (.slice none 0 0)).setCell ⟨g, m * 2 + 1, none⟩ (.int .i64 0) = w2 at *
  have hblk3 := heap_setCell_same w2 p o _ t (.slice (some ⟨g, 0, none⟩) m c) hblk2
  rw [set_set] at hblk3
  have t3 : Turns (fun k => k = p) w2 (w2.setCell ⟨p, o, none⟩ (.slice (some ⟨g, 0, none⟩) m c)) := turns_cell (Turns.refl _ _) _ _
  have hall : Turns (fun k => k = p ∨ inRow (.slice (some ⟨g, 0, none⟩) (m + 1) c) k) w (w2.setCell ⟨p, o, none⟩ (.slice (some ⟨g, 0, none⟩) m c)) :=
    ((T0.out.mono fun _ _ x => x.elim).trans (t2.mono fun k _ e => .inr ⟨_, _, by rw [e]⟩)).trans (t3.mono fun _ _ e => .inl e)
  have hrw := R2.keep t3 hgp
  have FIN := hide (show HB S (w2.setCell ⟨p, o, none⟩ (.slice (some ⟨g, 0, none⟩) m c)) p o t cs (.slice (some ⟨g, 0, none⟩) m c) L ∧ HRow (w2.setCell ⟨p, o, none⟩ (.slice (some ⟨g, 0, none⟩) m c)) g c L ∧ Moved p (.slice (some ⟨g, 0, none⟩) (m + 1) c) (.slice (some ⟨g, 0, none⟩) m c) w (w2.setCell ⟨p, o, none⟩ (.slice (some ⟨g, 0, none⟩) m c)) by
    refine ⟨⟨hblk3, h.at', h.sp, fun k hk => h.up k (Nat.le_trans hall.size hk), .inr ⟨g, c, by rw [hm], hrw, hgp, hsg⟩, fun y hy => ?_, ?_⟩, hrw, hall, fun k hk => .inl ?_⟩
    · have := h.each y (List.mem_append_left _ hy)
      refine ⟨this.1.keep hall fun q hq e => this.2 q hq ?_, this.2⟩
      rcases e with e | ⟨_, _, e⟩
      · rw [e]; exact h.sp
      · cases e; exact hsg
    · have := h.len; rw [List.length_append] at this; omega
    · obtain ⟨_, _, e⟩ := hk
      cases e; exact ⟨_, _, rfl⟩)
  have hcell0 := B0.cell
  have z2 := R0.frozen (m * 2)
  have z3 := R0.frozen (m * 2 + 1)
  obtain ⟨b0, b1⟩ := R0.at hx
  have hcell2 : w2.cell? ⟨p, o, none⟩ = some (.slice (some ⟨g, 0, none⟩) (m + 1) c) := by rw [cell_of_row w2 p o _ t (0, 0) hblk2]; exact Array.getElem?_setIfInBounds_self_of_lt h.at'
  have z4 := frozen_of_row w2 p o _ t hblk2
  have hnew3 := t3.heap hnew2 (by have := lt_of_heap h.blk; show ¬ w.heap.size = p; omega)
  have c0 := cell_of_row (w2.setCell ⟨p, o, none⟩ (.slice (some ⟨g, 0, none⟩) m c)) w.heap.size 0 _ 94 (0, 0) hnew3
  have c1 := cell_of_row (w2.setCell ⟨p, o, none⟩ (.slice (some ⟨g, 0, none⟩) m c)) w.heap.size 1 _ 94 (0, 0) hnew3
  have HW0 := hide hw0
  have HW2 := hide hw2
  have C0 := hide c0
  have C1 := hide c1
  clear h hrow hm hx T0 hgl hw0 hnew R0 B0 hr2 t2 R2 hblk2 hnew2 hblk3 t3 hall hrw hnew3 hw2 c0 c1
  obtain ⟨xb, xo, xc, xR, xn⟩ := x
  simp only at *
  generalize xR.length = xl at *
  go_enter Try.func105, Try.ntmps105
  go_upto_region 3 with (fail)
  rw [← HW0.out]
  go_upto_region 4 with (fail)
  rw [HW2.out]
  go_upto_region 5 with (fail)
  have c0 := C0.out
  have c1 := C1.out
  go_wp2_with fail
  go_ret
  exact ⟨rfl, FIN.out⟩
end Go.Proofs.Ytpgligfolecieaa

/-
  A heap's Push, Pop and Fix.
-/
namespace Go.Proofs.Ytpgligfolecieaa
open Go.RowKit
set_option maxRecDepth 100000
set_option maxHeartbeats 4000000
theorem hf_left {L : List Hd} {M : List Hd} {k : Nat} (h : k < L.length) : hf (L ++ M) k = hf L k := by unfold hf; rw [List.getElem?_append_left h]
theorem hpush_any (S : Nat → Prop) (p o t : Nat) (cs : Array Value) (v : Value) (L : List Hd) (x : Hd) (w : World) (h : HB S w p o t cs v L) (hh : Hp.Heap ltH (hf L) L.length) (hx : HdOk w x) (hxs : ∀ q, x.uses q → ¬ S q) (hlen : L.length < 1000000) :
    Calls Try.prog 77 #[.iface 92 (.pointer (some ⟨p, o, none⟩)), .iface 94 (.agg #[.slice (some ⟨x.b, x.off, none⟩) x.R.length x.c, .int .i64 (x.no : Nat)])] w fun e w' => ∃ v' L', (∃ u, e = .returned u) ∧ HB S w' p o t cs v' L' ∧ L'.Perm (L ++ [x]) ∧ Hp.Heap ltH (hf L') L'.length ∧ Moved p v v' w w' := by
  have H0 := hide h
  have HH := hide hh
  have HX := hide hx
  have HXS := hide hxs
  have HL := hide hlen
  clear h hh hx hxs hlen
  obtain ⟨y, hy⟩ : ∃ y, y = x := ⟨x, rfl⟩
  have HY := hide hy
  clear hy
  have HP := hide (push_any S p o t cs v L x w H0.out HX.out HXS.out HL.out)
  generalize hxl : x.R.length = xl at HP ⊢
  obtain ⟨xb, xo, xc, xR, xn⟩ := x
  simp only at *
  have HXL := hide hxl
  clear hxl
  go_enter Try.func77, Try.ntmps77
  go_wp2_with fail
  refine HP.out.mono ?_
  rintro e w1 ⟨g, c, ⟨u, rfl⟩, hB, hR, hgp, hsg, hM⟩
  have hcell := hB.cell
  have hm1 := method_len p o (L.length + 1) c _ w1 hcell
  have B1 := hide hB
  have R1 := hide hR
  have M1 := hide hM
  have HL1 := hide (show (L ++ [⟨xb, xo, xc, xR, xn⟩] : List Hd).length = L.length + 1 by simp)
  have U1 := hide (show Hp.HeapUp ltH (hf (L ++ [⟨xb, xo, xc, xR, xn⟩])) (L.length + 1) L.length from Hp.heap_end HH.out fun k hk => hf_left hk)
  have hll := HL.out
  have hli : (L.length : Int) < 1000000 := by omega
  clear hB hR hM hll
  generalize hq : (L ++ [⟨xb, xo, xc, xR, xn⟩] : List Hd) = L1 at B1 R1 M1 HL1 U1
  have HQ := hide hq
  clear hq
  generalize L.length = n at *
  go_wp2_with fail
  refine (len_any _ _ _ _).mono ?_
  rintro e w2 ⟨rfl, rfl⟩
  go_wp2_with fail
  refine (up_any S p o t g c (n + 1) n cs L1 w2 B1.out R1.out HL1.out.symm hgp hsg (by omega) U1.out).mono ?_
  rintro e w3 ⟨L2, ⟨u2, rfl⟩, hB3, hR3, hP3, hH3, hT3⟩
  have FIN := hide (show ∃ v' L', (∃ u, Ending.returned (.tuple #[]) = .returned u) ∧ HB S w3 p o t cs v' L' ∧ L'.Perm (L ++ [⟨xb, xo, xc, xR, xn⟩]) ∧ Hp.Heap ltH (hf L') L'.length ∧ Moved p v v' w w3 from ⟨_, L2, ⟨_, rfl⟩, hB3, by rw [HQ.out]; exact hP3, by rw [hP3.length_eq, HL1.out]; exact hH3, M1.out.trans (Moved.row hT3)⟩)
  clear hB3 hR3 hP3 hH3 hT3
  go_wp2_with fail
  go_end0
  exact FIN.out
theorem hpop_any (S : Nat → Prop) (p o t : Nat) (cs : Array Value) (v : Value) (L : List Hd) (w : World) (h : HB S w p o t cs v L) (hh : Hp.Heap ltH (hf L) L.length) (hne : L ≠ []) :
    Calls Try.prog 81 #[.iface 92 (.pointer (some ⟨p, o, none⟩))] w fun e w' => ∃ v' L', (∃ u, e = .returned u) ∧ HB S w' p o t cs v' L' ∧ (L' ++ [hf L 0]).Perm L ∧ Hp.Heap ltH (hf L') L'.length ∧ Moved p v v' w w' := by
  obtain ⟨g, c, rfl, hR, hgp, hsg⟩ := h.full hne
  obtain ⟨n, hn⟩ : ∃ n, L.length = n + 1 := by
    cases L with
    | nil => exact absurd rfl hne
    | cons a b => exact ⟨b.length, rfl⟩
  rw [hn] at h ⊢
  rw [hn] at hh
  have HN := hide hn
  have H0 := hide h
  have HH := hide hh
  have R0 := hide hR
  have hcell := h.cell
  have hlen : (n : Int) ≤ 1000000 := by have := h.len; omega
  have hm1 := method_len p o (n + 1) c _ w hcell
  have hm2 := method_swap p o (n + 1) c _ w hcell
  clear h hh hR hn hne
  go_enter Try.func81, Try.ntmps81
  go_wp2_with fail
  refine (len_any _ _ _ _).mono ?_
  rintro e w1 ⟨rfl, rfl⟩
  go_wp2_with fail
  have h0 := at_hf (L := L) (k := 0) (by have := HN.out; omega)
  have h1 := at_hf (L := L) (k := n) (by have := HN.out; omega)
  refine (swap_any g c (n + 1) 0 n L _ _ w1 R0.out HN.out.symm h0 h1).mono ?_
  rintro e w2 ⟨⟨u, rfl⟩, hR2, hT2⟩
  have hP2 := Hp.swapL_perm L 0 n _ _ h0 h1
  have B2 := hide (show HB S w2 p o t cs (.slice (some ⟨g, 0, none⟩) (n + 1) c) (Hp.swapL L 0 n (hf L 0) (hf L n)) by
    have := HB.turn (by rw [HN.out]; exact H0.out) hT2 hR2 hP2 hgp hsg
    rw [HN.out] at this
    exact this)
  have D2 := hide (show Hp.HeapDown ltH (hf (Hp.swapL L 0 n (hf L 0) (hf L n))) n 0 by
    rw [hf_swap L _ _ (by have := HN.out; omega) (by have := HN.out; omega)]
    exact Hp.heap_top (Hp.heap_less HH.out (by omega)) fun k k0 kn => Hp.swapF_o _ (by omega) (by omega))
  have E2 := hide (show (Hp.swapL L 0 n (hf L 0) (hf L n)).drop n = [hf L 0] by
    have hq : (Hp.swapL L 0 n (hf L 0) (hf L n)).length = n + 1 := by rw [Hp.swapL_length]; exact HN.out
    have hg : (Hp.swapL L 0 n (hf L 0) (hf L n))[n]? = some (hf L 0) := by
      rw [Hp.swapL_get L 0 n n _ _ h0 h1]
      by_cases e : n = 0
      · rw [if_pos e, h1, e]
      · rw [if_neg e, if_pos rfl, h0]
    obtain ⟨hlt, hge⟩ := List.getElem?_eq_some_iff.1 hg
    rw [List.drop_eq_getElem_cons hlt, hge, List.drop_eq_nil_of_le (by omega)])
  have HL2 := hide (show (Hp.swapL L 0 n (hf L 0) (hf L n)).length = n + 1 by rw [Hp.swapL_length]; exact HN.out)
  have R2 := hide hR2
  have T2 := hide hT2
  have P2 := hide hP2
  clear hR2 hT2 hP2 h0 h1
  generalize Hp.swapL L 0 n (hf L 0) (hf L n) = L2 at *
  go_wp2_with fail
  refine (down_any S p o t g c (n + 1) 0 n cs L2 w2 B2.out R2.out HL2.out.symm hgp hsg (by omega) (by omega) D2.out).mono ?_
  rintro e w3 ⟨L3, ⟨b, rfl⟩, hB3, hR3, hP3, hD3, hH3, hT3⟩
  obtain ⟨M, rfl⟩ : ∃ M, L3 = M ++ [hf L 0] := ⟨L3.take n, by rw [← E2.out, ← hD3, List.take_append_drop]⟩
  have hM : n = M.length := by
    have := hP3.length_eq
    rw [HL2.out, List.length_append] at this
    simp at this
    omega
  have B3 := hide hB3
  have R3 := hide hR3
  have P3 := hide (hP3.trans P2.out)
  have T3 := hide (T2.out.trans hT3)
  have HM := hide hM
  have H3 := hide (show Hp.Heap ltH (hf M) n from fun k k0 kn => by
    have := hH3 k k0 kn
    rw [hf_left (by omega), hf_left (by omega)] at this
    exact this)
  clear hB3 hR3 hP3 hT3 hH3 hD3 hM
  go_wp2_with fail
  refine (pop_any S p o t g c n cs M (hf L 0) w3 HM.out B3.out R3.out hgp hsg).mono ?_
  rintro e w4 ⟨rfl, hB4, hR4, hM4⟩
  have FIN := hide (show HB S w4 p o t cs (.slice (some ⟨g, 0, none⟩) n c) M ∧ (M ++ [hf L 0]).Perm L ∧ Hp.Heap ltH (hf M) M.length ∧ Moved p (.slice (some ⟨g, 0, none⟩) (n + 1) c) (.slice (some ⟨g, 0, none⟩) n c) w1 w4 from ⟨hB4, P3.out, by rw [← HM.out]; exact H3.out, (Moved.row T3.out).trans hM4⟩)
  clear hB4 hR4 hM4
  go_wp2_with fail
  go_ret
  exact ⟨_, M, ⟨_, rfl⟩, FIN.out⟩
theorem hfix_any (S : Nat → Prop) (p o t : Nat) (cs : Array Value) (v : Value) (L : List Hd) (w : World) (h : HB S w p o t cs v L) (hh : Hp.HeapDown ltH (hf L) L.length 0) (hne : L ≠ []) :
    Calls Try.prog 82 #[.iface 92 (.pointer (some ⟨p, o, none⟩)), .int .i64 0] w fun e w' => ∃ L', (∃ u, e = .returned u) ∧ HB S w' p o t cs v L' ∧ L'.Perm L ∧ Hp.Heap ltH (hf L') L'.length ∧ Moved p v v w w' := by
  obtain ⟨g, c, rfl, hR, hgp, hsg⟩ := h.full hne
  obtain ⟨n, hn⟩ : ∃ n, L.length = n + 1 := by
    cases L with
    | nil => exact absurd rfl hne
    | cons a b => exact ⟨b.length, rfl⟩
  rw [hn] at h ⊢
  rw [hn] at hh
  have HN := hide hn
  have H0 := hide h
  have HH := hide hh
  have R0 := hide hR
  have hcell := h.cell
  have hlen : (n : Int) ≤ 1000000 := by have := h.len; omega
  have hm1 := method_len p o (n + 1) c _ w hcell
  clear h hh hR hn hne
  go_enter Try.func82, Try.ntmps82
  go_wp2_with fail
  refine (len_any _ _ _ _).mono ?_
  rintro e w1 ⟨rfl, rfl⟩
  go_wp2_with fail
  refine (down_any S p o t g c (n + 1) 0 (n + 1) cs L w1 H0.out R0.out HN.out.symm hgp hsg (by omega) (by omega) HH.out).mono ?_
  rintro e w2 ⟨L2, ⟨b, rfl⟩, hB2, hR2, hP2, _, hH2, hT2⟩
  have B2 := hide hB2
  have R2 := hide hR2
  have P2 := hide hP2
  have H2 := hide hH2
  have T2 := hide hT2
  have HL2 := hide (show L2.length = n + 1 by rw [hP2.length_eq]; exact HN.out)
  clear hB2 hR2 hP2 hH2 hT2
  cases b with
  | true =>
    go_wp2_with fail
    go_end0
    exact ⟨L2, ⟨_, rfl⟩, B2.out, P2.out, by rw [HL2.out]; exact H2.out, Moved.row T2.out⟩
  | false =>
    go_wp2_with fail
    refine (up_any S p o t g c (n + 1) 0 cs L2 w2 B2.out R2.out HL2.out.symm hgp hsg (by omega) ⟨fun k k0 kn _ => H2.out k k0 kn, fun k _ _ _ h => by omega⟩).mono ?_
    rintro e w3 ⟨L3, ⟨u, rfl⟩, hB3, hR3, hP3, hH3, hT3⟩
    have B3 := hide hB3
    have P3 := hide hP3
    have H3 := hide hH3
    have T3 := hide hT3
    clear hB3 hR3 hP3 hH3 hT3
    go_wp2_with fail
    go_end0
    exact ⟨L3, ⟨_, rfl⟩, B3.out, P3.out.trans P2.out, by rw [P3.out.length_eq, HL2.out]; exact H3.out, Moved.row (T2.out.trans T3.out)⟩
end Go.Proofs.Ytpgligfolecieaa

/-
  The first of the heads, and going by it.
-/
namespace Go.Proofs.Ytpgligfolecieaa
open Go.RowKit
set_option maxRecDepth 100000
set_option maxHeartbeats 4000000
/-- A head that has gone by its first entry. -/
def adv (h : Hd) : Option Hd := match h.R with
  | _ :: y :: r => some ⟨h.b, h.off + 4, h.c - 1, y :: r, h.no⟩
  | _ => none
theorem hd_cells {w : World} {x : Hd} {y : Tow} {r : List Tow} (hx : HdOk w x) (hR : x.R = y :: r) :
    (w.cell? ⟨x.b, x.off, none⟩ = some (.slice y.ka y.e.key.length y.kc) ∧ w.cell? ⟨x.b, x.off + 1, none⟩ = some (.int .u64 (y.e.seq : Nat)) ∧ w.cell? ⟨x.b, x.off + 2, none⟩ = some (.int .i64 y.e.kind) ∧ w.cell? ⟨x.b, x.off + 3, none⟩ = some (.slice y.va y.e.val.length y.vc)) ∧ Bytes w (.slice y.ka y.e.key.length y.kc) y.e.key ∧ Bytes w (.slice y.va y.e.val.length y.vc) y.e.val := by
  obtain ⟨⟨b, off, e1, hc⟩, h1, h2⟩ := hx.ents 0 y (by rw [hR]; rfl)
  cases e1
  rw [Nat.zero_mul, Nat.add_zero] at hc
  exact ⟨⟨hc 0 _ rfl, hc 1 _ rfl, hc 2 _ rfl, hc 3 _ rfl⟩, h1, h2⟩
theorem HdOk.adv {w : World} {x : Hd} {y z : Tow} {r : List Tow} (hx : HdOk w x) (hR : x.R = y :: z :: r) : HdOk w ⟨x.b, x.off + 4, x.c - 1, z :: r, x.no⟩ := by
  have hc := hx.cap
  have hs := hx.size
  rw [hR] at hc hs
  simp only [List.length_cons] at hc hs
  refine ⟨by simp, fun k u hu => ?_, by simp only [List.length_cons]; omega, by simp only [List.length_cons]; omega, hx.no⟩
  obtain ⟨⟨b, off, e1, hcc⟩, h1, h2⟩ := hx.ents (k + 1) u (by rw [hR]; exact hu)
  cases e1
  refine ⟨⟨_, _, rfl, fun j v hv => ?_⟩, h1, h2⟩
  have := hcc j v hv
  rw [show x.off + (k + 1) * 4 + j = x.off + 4 + k * 4 + j by omega] at this
  exact this
theorem first_any (g c n : Nat) (L : List Hd) (x : Hd) (y : Tow) (r : List Tow) (w : World) (hrow : HRow w g c L) (hn : n = L.length) (h0 : L[0]? = some x) (hx : HdOk w x) (hR : x.R = y :: r) :
    Calls Try.prog 78 #[.slice (some ⟨g, 0, none⟩) n c] w fun e w' => e = .returned (.agg #[.slice y.ka y.e.key.length y.kc, .int .u64 (y.e.seq : Nat), .int .i64 y.e.kind, .slice y.va y.e.val.length y.vc]) ∧ Below w.heap.size w w' := by
  obtain ⟨a0, a1⟩ := hrow.at h0
  rw [Nat.zero_mul] at a0
  obtain ⟨⟨c0, c1, c2, c3⟩, _, _⟩ := hd_cells hx hR
  have i1 : (0 : Int) < n := by have := (List.getElem?_eq_some_iff.1 h0).1; omega
  have hl : x.R.length = r.length + 1 := by rw [hR]; rfl
  rw [hl] at a0
  clear hrow hn h0 hx hR a1 hl
  obtain ⟨xb, xo, xc, xR, xn⟩ := x
  simp only at *
  generalize r.length = rl at *
  generalize y.e.key.length = kn at *
  generalize y.e.val.length = vn at *
  have T0 := hide ((Turns.refl (fun _ => False) w).alloc (.cells #[.slice none 0 0, .int .u64 0, .int .i64 0, .slice none 0 0] 29))
  have a0' := T0.out.cell a0 (fun x => x)
  have c0' := T0.out.cell c0 (fun x => x)
  have c1' := T0.out.cell c1 (fun x => x)
  have c2' := T0.out.cell c2 (fun x => x)
  have c3' := T0.out.cell c3 (fun x => x)
  have B1 := hide ((Below.refl w.heap.size w).alloc (Nat.le_refl _) (.cells #[.slice y.ka kn y.kc, .int .u64 (y.e.seq : Nat), .int .i64 y.e.kind, .slice y.va vn y.vc] 29))
  go_enter Try.func78, Try.ntmps78
  go_wp2_with fail
  refine bodyPost_ret (v := .agg #[.slice y.ka kn y.kc, .int .u64 (y.e.seq : Nat), .int .i64 y.e.kind, .slice y.va vn y.vc]) ?_ rfl ?_
  · exact results_cell_row Try.results78 _ _ _ _ _ _ _ rfl (heap_alloc_new w _) Try.underlying29 rfl info29
  · exact ⟨rfl, B1.out⟩
theorem advance_any (S : Nat → Prop) (p o t : Nat) (cs : Array Value) (v : Value) (L : List Hd) (x : Hd) (w : World) (h : HB S w p o t cs v (x :: L)) (hh : Hp.Heap ltH (hf (x :: L)) (L.length + 1)) :
    Calls Try.prog 79 #[.pointer (some ⟨p, o, none⟩)] w fun e w' => ∃ v' L', (∃ u, e = .returned u) ∧ HB S w' p o t cs v' L' ∧ L'.Perm ((adv x).toList ++ L) ∧ Hp.Heap ltH (hf L') L'.length ∧ Moved p v v' w w' := by
  obtain ⟨g, c, rfl, hR, hgp, hsg⟩ := h.full (by simp)
  have hcell := h.cell
  have hx := h.each x (by simp)
  obtain ⟨a0, a1⟩ := hR.at (i := 0) (x := x) rfl
  rw [Nat.zero_mul] at a0 a1
  have z0 := hR.frozen 0
  have hxc := hx.1.cap
  have hxs := hx.1.size
  have i1 : (0 : Int) < ((x :: L).length : Nat) := by simp only [List.length_cons]; omega
  have H0 := hide h
  have HH := hide hh
  have R0 := hide hR
  have X0 := hide hx
  obtain ⟨y, r, hxr⟩ : ∃ y r, x.R = y :: r := by
    have := hx.1.ne
    cases e : x.R with
    | nil => exact absurd e this
    | cons y r => exact ⟨y, r, rfl⟩
  have HXR := hide hxr
  clear h hh hR hx
  cases r with
  | nil =>
    rw [hxr] at a0 hxc hxs
    have HP := hide (hpop_any S p o t cs _ (x :: L) w H0.out HH.out (by simp))
    generalize hn : (x :: L).length = n at *
    have HN := hide hn
    clear hn hxr
    go_enter Try.func79, Try.ntmps79
    go_wp2_with fail
    refine HP.out.mono ?_
    rintro e w1 ⟨v', L', ⟨u, rfl⟩, hB, hP, hH, hM⟩
    have FIN := hide (show HB S w1 p o t cs v' L' ∧ L'.Perm ((adv x).toList ++ L) ∧ Hp.Heap ltH (hf L') L'.length ∧ Moved p (.slice (some ⟨g, 0, none⟩) n c) v' w w1 by
      refine ⟨hB, ?_, hH, hM⟩
      have e1 : adv x = none := by unfold adv; rw [HXR.out]
      rw [e1]
      have h1 : (L' ++ [x]).Perm (x :: L) := hP
      exact (List.perm_cons x).1 ((List.perm_append_comm (l₁ := [x]) (l₂ := L')).trans h1))
    clear hB hP hH hM
    go_wp2_with fail
    refine bodyPost_ret (results_none rfl _ _ _) rfl ?_
    exact ⟨v', L', ⟨_, rfl⟩, FIN.out⟩
  | cons z r =>
    rw [hxr] at a0 hxc hxs
    simp only [List.length_cons] at hxc hxs
    have hb1 : ∀ q, (⟨x.b, x.off + 4, x.c - 1, z :: r, x.no⟩ : Hd).uses q → x.uses q := fun q hq => by
      rcases hq with e | ⟨t, ht, hb⟩
      · exact .inl e
      · exact .inr ⟨t, by rw [HXR.out]; exact List.mem_cons_of_mem _ ht, hb⟩
    have ht : Turns (fun k => k = g) w (w.setCell ⟨g, 0, none⟩ (.slice (some ⟨x.b, x.off + 4, none⟩) (r.length + 1) (x.c - 1))) := turns_cell (Turns.refl _ _) _ _
    have hcs : hdCells (⟨x.b, x.off + 4, x.c - 1, z :: r, x.no⟩ :: L) = (hdCells (x :: L)).set 0 (.slice (some ⟨x.b, x.off + 4, none⟩) (r.length + 1) (x.c - 1)) := rfl
    have hrow1 : HRow (w.setCell ⟨g, 0, none⟩ (.slice (some ⟨x.b, x.off + 4, none⟩) (r.length + 1) (x.c - 1))) g c (⟨x.b, x.off + 4, x.c - 1, z :: r, x.no⟩ :: L) := ⟨R0.out.1, by rw [hcs]; exact R0.out.2.set _ _⟩
    have hB1 : HB S (w.setCell ⟨g, 0, none⟩ (.slice (some ⟨x.b, x.off + 4, none⟩) (r.length + 1) (x.c - 1))) p o t cs (.slice (some ⟨g, 0, none⟩) (x :: L).length c) (⟨x.b, x.off + 4, x.c - 1, z :: r, x.no⟩ :: L) := by
      refine ⟨ht.heap H0.out.blk (Ne.symm hgp), H0.out.at', H0.out.sp, fun k hk => H0.out.up k (Nat.le_trans ht.size hk), .inr ⟨g, c, rfl, hrow1, hgp, hsg⟩, fun u hu => ?_, H0.out.len⟩
      rcases List.mem_cons.1 hu with rfl | hu
      · exact ⟨(X0.out.1.adv HXR.out).keep ht fun q hq e => X0.out.2 q (hb1 q hq) (e ▸ hsg), fun q hq => X0.out.2 q (hb1 q hq)⟩
      · have := H0.out.each u (List.mem_cons_of_mem _ hu)
        exact ⟨this.1.keep ht fun q hq e => this.2 q hq (e ▸ hsg), this.2⟩
    have HP := hide (hfix_any S p o t cs _ _ _ hB1 (Hp.heap_top (f := hf (x :: L)) (by exact HH.out) (fun k k0 kn => by
      cases k with
      | zero => omega
      | succ k => rfl)) (by simp))
    have M1 := hide (Moved.row (p := p) (n := (x :: L).length) (c := c) (n' := (x :: L).length) (c' := c) ht)
    clear hb1 ht hcs hrow1 hB1
    have hl : (z :: r).length = r.length + 1 := rfl
    have hxc1 : (1 : Int) ≤ (x.c : Int) := by omega
    have hxc2 : (r.length : Int) + 1 + 1 ≤ (x.c : Int) := by omega
    have hsub : (((x.c : Int) - 1).toNat) = x.c - 1 := by omega
    have HSUB := hide hsub
    simp only [List.length_cons] at a0
    generalize hn : (x :: L).length = n at *
    have HN := hide hn
    have rl : (r.length : Int) ≤ 1000000 := by omega
    clear hn hxr hl hsub
    go_enter Try.func79, Try.ntmps79
    go_upto_region 4 with (fail)
    go_wp2_with fail
    refine HP.out.mono ?_
    rintro e w1 ⟨L', ⟨u, rfl⟩, hB, hP, hH, hM⟩
    have FIN := hide (show HB S w1 p o t cs (.slice (some ⟨g, 0, none⟩) n c) L' ∧ L'.Perm ((adv x).toList ++ L) ∧ Hp.Heap ltH (hf L') L'.length ∧ Moved p (.slice (some ⟨g, 0, none⟩) n c) (.slice (some ⟨g, 0, none⟩) n c) w w1 by
      refine ⟨hB, ?_, hH, M1.out.trans hM⟩
      have e1 : adv x = some ⟨x.b, x.off + 4, x.c - 1, z :: r, x.no⟩ := by unfold adv; rw [HXR.out]
      rw [e1]
      exact hP)
    clear hB hP hH hM
    go_wp2_with fail
    go_end0
    exact ⟨_, L', ⟨_, rfl⟩, FIN.out⟩
end Go.Proofs.Ytpgligfolecieaa

/-
  What is merged, as plain mathematics.
-/
namespace Go.Proofs.Ytpgligfolecieaa
open Go.RowKit
set_option maxRecDepth 100000
def ltT (a b : Tow) : Prop := cmpE a.e.en b.e.en < 0
theorem cmpE_lt_le {x y z : En} (h1 : cmpE x y < 0) (h2 : cmpE y z ≤ 0) : cmpE x z < 0 := by
  have := @cmpE_sub x y z (by omega) h2
  omega
theorem cmpE_le_lt {x y z : En} (h1 : cmpE x y ≤ 0) (h2 : cmpE y z < 0) : cmpE x z < 0 := by
  have := @cmpE_sub x y z h1 (by omega)
  omega
/-- Each row rises. -/
def Up (L : List Hd) : Prop := ∀ h, h ∈ L → h.R.Pairwise ltT
/-- What the rows' entries are, merged. -/
structure Mg (L : List Hd) (xs : List Tow) : Prop where
  rise : xs.Pairwise ltT
  of : ∀ x, x ∈ xs → ∃ h, h ∈ L ∧ x ∈ h.R ∧ ∀ h', h' ∈ L → h'.no < h.no → ∀ y, y ∈ h'.R → cmpE y.e.en x.e.en ≠ 0
  all : ∀ h, h ∈ L → ∀ y, y ∈ h.R → ∃ x, x ∈ xs ∧ cmpE x.e.en y.e.en = 0
theorem Mg.nil : Mg [] [] := ⟨List.Pairwise.nil, fun _ h => (by cases h), fun _ h => (by cases h)⟩
theorem Mg.perm {L L' : List Hd} {xs : List Tow} (h : Mg L xs) (hp : ∀ x, x ∈ L ↔ x ∈ L') : Mg L' xs :=
  ⟨h.rise, fun x hx => by
    obtain ⟨a, h1, h2, h3⟩ := h.of x hx
    exact ⟨a, (hp a).1 h1, h2, fun b hb => h3 b ((hp b).2 hb)⟩, fun a ha => h.all a ((hp a).2 ha)⟩
theorem adv_cons {h : Hd} {y z : Tow} {r : List Tow} (e : h.R = y :: z :: r) : adv h = some ⟨h.b, h.off + 4, h.c - 1, z :: r, h.no⟩ := by unfold adv; rw [e]
theorem adv_one {h : Hd} {y : Tow} (e : h.R = [y]) : adv h = none := by unfold adv; rw [e]
theorem adv_some {h h' : Hd} (e : adv h = some h') : ∃ y, h.R = y :: h'.R ∧ h'.no = h.no ∧ h'.R ≠ [] := by
  unfold adv at e
  split at e
  · next y z r hr =>
    cases e
    exact ⟨y, hr, rfl, by simp⟩
  · cases e
theorem top_cons {h : Hd} {y : Tow} {r : List Tow} (e : h.R = y :: r) : h.top = y.e.en := by unfold Hd.top; rw [e]; rfl
/-- Some heads have gone by an entry x. -/
def Went (x : En) (L L1 : List Hd) : Prop := ∃ d r, L.Perm (d ++ r) ∧ L1.Perm (d.filterMap adv ++ r) ∧ ∀ h, h ∈ d → cmpE h.top x = 0
theorem Went.refl (x : En) (L : List Hd) : Went x L L := ⟨[], L, .refl _, .refl _, fun _ h => by cases h⟩
theorem top_le {h : Hd} (hu : h.R.Pairwise ltT) {y : Tow} (hy : y ∈ h.R) : cmpE h.top y.e.en ≤ 0 := by
  cases e : h.R with
  | nil => rw [e] at hy; cases hy
  | cons z r =>
    rw [top_cons e]
    rw [e] at hy hu
    rcases List.mem_cons.1 hy with rfl | hy
    · have := (cmpE_zero y.e.en y.e.en).2 ⟨rfl, rfl⟩; omega
    · have := (List.pairwise_cons.1 hu).1 y hy
      unfold ltT at this
      omega
theorem adv_above {x : En} {h h' : Hd} (hu : h.R.Pairwise ltT) (e : adv h = some h') (hx : cmpE h.top x = 0) : ∀ y, y ∈ h'.R → cmpE x y.e.en < 0 := fun y hy => by
  obtain ⟨z, hr, _, _⟩ := adv_some e
  rw [hr] at hu
  have h1 := (List.pairwise_cons.1 hu).1 y hy
  rw [top_cons hr] at hx
  have := cmpE_swap z.e.en x
  exact cmpE_le_lt (by omega) h1
theorem Went.step {x : En} {L L1 L2 : List Hd} {h : Hd} (hu : Up L) (hw : Went x L (h :: L1)) (hx : cmpE h.top x = 0) (hne : h.R ≠ []) (h2 : L2.Perm ((adv h).toList ++ L1)) : Went x L L2 := by
  obtain ⟨d, r, p1, p2, p3⟩ := hw
  have hmem : h ∈ d.filterMap adv ++ r := p2.mem_iff.1 (by simp)
  have hr : h ∈ r := by
    rcases List.mem_append.1 hmem with hm | hm
    · exfalso
      obtain ⟨a, ha, e⟩ := List.mem_filterMap.1 hm
      have h1 := adv_above (hu a (p1.mem_iff.2 (List.mem_append_left _ ha))) e (p3 a ha)
      cases e2 : h.R with
      | nil => exact hne e2
      | cons y t =>
        have := h1 y (by rw [e2]; simp)
        rw [top_cons e2] at hx
        have := cmpE_swap x y.e.en
        omega
    · exact hm
  obtain ⟨s, t, rfl⟩ := List.append_of_mem hr
  refine ⟨h :: d, s ++ t, ?_, ?_, ?_⟩
  · refine p1.trans ?_
    rw [List.cons_append, ← List.append_assoc]
    exact List.perm_middle.trans (by rw [List.append_assoc])
  · have p4 : L1.Perm (d.filterMap adv ++ (s ++ t)) := by
      refine (List.perm_cons h).1 (p2.trans ?_)
      rw [← List.append_assoc]
      exact List.perm_middle.trans (by rw [List.append_assoc])
    refine h2.trans ((p4.append_left _).trans ?_)
    rw [← List.append_assoc]
    refine List.Perm.append_right _ ?_
    cases e : adv h with
    | none => rw [List.filterMap_cons_none e]; exact .refl _
    | some h' => rw [List.filterMap_cons_some e]; exact .refl _
  · intro a ha
    rcases List.mem_cons.1 ha with rfl | ha
    · exact hx
    · exact p3 a ha
/-- Behind 'next': what is merged of the rest, and the entry ahead of it. -/
theorem Mg.step {L L' : List Hd} {h0 : Hd} {y : Tow} {r0 : List Tow} (hu : Up L) (h0m : h0 ∈ L) (hy : h0.R = y :: r0) (hmin : ∀ h, h ∈ L → ¬ ltH h h0) (hw : Went y.e.en L L') (hend : ∀ h, h ∈ L' → cmpE h.top y.e.en ≠ 0) {xs : List Tow} (hm : Mg L' xs) : Mg L (y :: xs) := by
  obtain ⟨d, r, p1, p2, p3⟩ := hw
  have inL : ∀ h, h ∈ L ↔ h ∈ d ∨ h ∈ r := fun h => by rw [p1.mem_iff, List.mem_append]
  have inL' : ∀ h, h ∈ L' ↔ (∃ a, a ∈ d ∧ adv a = some h) ∨ h ∈ r := fun h => by rw [p2.mem_iff, List.mem_append, List.mem_filterMap]
  have ht0 : h0.top = y.e.en := top_cons hy
  -- all that is left is behind y
  have above : ∀ h, h ∈ L' → ∀ z, z ∈ h.R → cmpE y.e.en z.e.en < 0 := fun h hh z hz => by
    rcases (inL' h).1 hh with ⟨a, ha, e⟩ | hr
    · exact adv_above (hu a ((inL a).2 (.inl ha))) e (p3 a ha) z hz
    · have h1 := hmin h ((inL h).2 (.inr hr))
      have h2 := hend h hh
      have h3 := top_le (hu h ((inL h).2 (.inr hr))) hz
      unfold ltH at h1
      rw [ht0] at h1
      have := cmpE_swap y.e.en h.top
      exact cmpE_lt_le (by omega) h3
  refine ⟨List.pairwise_cons.2 ⟨fun z hz => ?_, hm.rise⟩, fun x hx => ?_, fun h hh z hz => ?_⟩
  · obtain ⟨h, h1, h2, _⟩ := hm.of z hz
    exact above h h1 z h2
  · rcases List.mem_cons.1 hx with rfl | hx
    · refine ⟨h0, h0m, by rw [hy]; simp, fun h' hh' hno z hz e => ?_⟩
      have h1 := hmin h' hh'
      have h2 := top_le (hu h' hh') hz
      unfold ltH at h1
      rw [ht0] at h1
      have s1 := cmpE_swap h'.top x.e.en
      have h3 := cmpE_lt_le (x := x.e.en) (y := h'.top) (z := z.e.en) (by omega) h2
      have s2 := cmpE_swap z.e.en x.e.en
      omega
    · obtain ⟨h, h1, h2, h3⟩ := hm.of x hx
      have hxy := above h h1 x h2
      have key : ∀ h', h' ∈ L → h'.no < h.no → ∀ z, z ∈ h'.R → cmpE z.e.en x.e.en ≠ 0 := fun h' hh' hno z hz => by
        rcases (inL h').1 hh' with hd | hr
        · cases e : h'.R with
          | nil => rw [e] at hz; cases hz
          | cons a t =>
            rw [e] at hz
            rcases List.mem_cons.1 hz with rfl | hz
            · have h4 := p3 h' hd
              rw [top_cons e] at h4
              have := cmpE_le_lt (x := z.e.en) (y := y.e.en) (z := x.e.en) (by omega) hxy
              omega
            · cases t with
              | nil => cases hz
              | cons b t =>
                exact h3 ⟨h'.b, h'.off + 4, h'.c - 1, b :: t, h'.no⟩ ((inL' _).2 (.inl ⟨h', hd, adv_cons e⟩)) hno z hz
        · exact h3 h' ((inL' h').2 (.inr hr)) hno z hz
      rcases (inL' h).1 h1 with ⟨a, ha, e⟩ | hr
      · obtain ⟨z, e1, e2, _⟩ := adv_some e
        exact ⟨a, (inL a).2 (.inl ha), by rw [e1]; exact List.mem_cons_of_mem _ h2, fun h' hh' hno => key h' hh' (by omega)⟩
      · exact ⟨h, (inL h).2 (.inr hr), h2, key⟩
  · rcases (inL h).1 hh with hd | hr
    · cases e : h.R with
      | nil => rw [e] at hz; cases hz
      | cons a t =>
        rw [e] at hz
        rcases List.mem_cons.1 hz with rfl | hz
        · have h4 := p3 h hd
          rw [top_cons e] at h4
          have := cmpE_swap z.e.en y.e.en
          exact ⟨y, by simp, by omega⟩
        · cases t with
          | nil => cases hz
          | cons b t =>
            obtain ⟨x, hx, h5⟩ := hm.all ⟨h.b, h.off + 4, h.c - 1, b :: t, h.no⟩ ((inL' _).2 (.inl ⟨h, hd, adv_cons e⟩)) z hz
            exact ⟨x, List.mem_cons_of_mem _ hx, h5⟩
    · obtain ⟨x, hx, h5⟩ := hm.all h ((inL' h).2 (.inr hr)) z hz
      exact ⟨x, List.mem_cons_of_mem _ hx, h5⟩
theorem Up.went {x : En} {L L1 : List Hd} (hu : Up L) (hw : Went x L L1) : Up L1 := fun h hh => by
  obtain ⟨d, r, p1, p2, _⟩ := hw
  rcases List.mem_append.1 (p2.mem_iff.1 hh) with hm | hm
  · obtain ⟨a, ha, e⟩ := List.mem_filterMap.1 hm
    obtain ⟨y, e1, _⟩ := adv_some e
    have := hu a (p1.mem_iff.2 (List.mem_append_left _ ha))
    rw [e1] at this
    exact (List.pairwise_cons.1 this).2
  · exact hu h (p1.mem_iff.2 (List.mem_append_right _ hm))
/-- How many entries are left. -/
def tot (L : List Hd) : Nat := (L.map fun h => h.R.length).sum
theorem tot_perm {L L' : List Hd} (h : L.Perm L') : tot L = tot L' := (h.map _).sum_nat
theorem tot_adv {h : Hd} {L : List Hd} (hne : h.R ≠ []) : tot ((adv h).toList ++ L) + 1 = tot (h :: L) := by
  cases e : h.R with
  | nil => exact absurd e hne
  | cons a t =>
    cases t with
    | nil => rw [adv_one e]; simp [tot, e]; omega
    | cons b t => rw [adv_cons e]; simp [tot, e]; omega
def lenAt (w : World) (g i : Nat) : Nat := match w.cell? ⟨g, i * 2, none⟩ with | some (.slice _ m _) => m | _ => 0
def leftW (p o : Nat) (w : World) : Nat := match w.cell? ⟨p, o, none⟩ with | some (.slice (some a) n _) => ((List.range n).map (lenAt w a.block)).sum | _ => 0
theorem leftW_of {S : Nat → Prop} {w : World} {p o t : Nat} {cs : Array Value} {v : Value} {L : List Hd} (h : HB S w p o t cs v L) : leftW p o w = tot L := by
  unfold leftW
  rw [h.cell]
  rcases h.row with ⟨rfl, rfl⟩ | ⟨g, c, rfl, hr, _⟩
  · rfl
  · show ((List.range L.length).map (lenAt w g)).sum = tot L
    unfold tot
    congr 1
    refine List.ext_getElem (by simp) fun i h1 h2 => ?_
    have hi : i < L.length := by simpa using h1
    have := (hr.at (List.getElem?_eq_getElem hi)).1
    simp only [List.getElem_map, List.getElem_range]
    unfold lenAt
    rw [this]
end Go.Proofs.Ytpgligfolecieaa
