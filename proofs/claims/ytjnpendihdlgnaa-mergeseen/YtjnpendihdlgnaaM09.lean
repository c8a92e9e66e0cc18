import Derived.Test.YtjnpendihdlgnaaM08
/-
  A head goes down.
-/
namespace Go.Proofs.Ytjnpendihdlgnaa
open Go.RowKit
set_option maxRecDepth 100000
set_option maxHeartbeats 4000000
theorem swap_drop {L : List Hd} {i j m : Nat} (hi : i < m) (hj : j < m) (_ : m ≤ L.length) : (Hp.swapL L i j (hf L i) (hf L j)).drop m = L.drop m := Hp.swapL_drop L i j m _ _ hi hj
theorem down_any (S : Nat → Prop) (p o t g c n i0 m : Nat) (cs : Array Value) (L : List Hd) (w : World) (h : HB S w p o t cs (.slice (some ⟨g, 0, none⟩) n c) L) (hrow : HRow w g c L) (hn : n = L.length) (hgp : g ≠ p) (hsg : S g) (hi0 : i0 < n) (hm : m ≤ n) (hh : Hp.HeapDown ltH (hf L) m i0) :
    Calls Try.prog 68 #[.iface 82 (.pointer (some ⟨p, o, none⟩)), .int .i64 (i0 : Nat), .int .i64 (m : Nat)] w fun e w' => ∃ L', (∃ b, e = .returned (.bool b)) ∧ HB S w' p o t cs (.slice (some ⟨g, 0, none⟩) n c) L' ∧ HRow w' g c L' ∧ L'.Perm L ∧ L'.drop m = L.drop m ∧ Hp.Heap ltH (hf L') m ∧ Turns (fun k => k = g) w w' := by
  have HN := hide hn
  have H0 := hide h
  have HR0 := hide hrow
  have HH := hide hh
  have hlen : (n : Int) ≤ 1000000 := by have := h.len; omega
  have HM := hide hm
  have hmi : (m : Int) ≤ 1000000 := by omega
  clear h hrow hn hh hm
  go_enter Try.func68, Try.ntmps68
  go_wp2_with fail
  go_loopw [7] (fun v7 wr => ∃ (i : Nat) (L' : List Hd), v7 = .int .i64 (i : Nat) ∧ i < n ∧ HB S wr p o t cs (.slice (some ⟨g, 0, none⟩) n c) L' ∧ HRow wr g c L' ∧ L'.Perm L ∧ L'.drop m = L.drop m ∧ Hp.HeapDown ltH (hf L') m i ∧ Turns (fun k => k = g) w wr) (fun v7 _ => (1000000 - intOf v7).toNat)
  case atStart =>
    exact ⟨i0, L, rfl, hi0, H0.out, HR0.out, .refl _, rfl, HH.out, Turns.refl _ _⟩
  case round =>
    obtain ⟨i, L1, rfl, hi, hB, hR, hP, hD, hU, hT⟩ := hrel
    have B1 := hide hB
    have R1 := hide hR
    have P1 := hide hP
    have D1 := hide hD
    have U1 := hide hU
    have T1 := hide hT
    have hcell := hB.cell
    have hL := hide (show L1.length = n by rw [hP.length_eq]; exact HN.out.symm)
    clear hB hR hP hU hT hD
    have hm1 := method_less p o n c _ wr hcell
    have hi2 : (i : Int) < n := by omega
    by_cases h1 : (m : Int) ≤ 2 * i + 1
    · have X := hide (show Hp.Heap ltH (hf L1) m from Hp.down_done1 U1.out (by omega))
      go_wp2_with fail
      all_goals go_ret
      all_goals exact ⟨L1, ⟨_, rfl⟩, B1.out, R1.out, P1.out, D1.out, X.out, T1.out⟩
    · have hx1 := at_hf (L := L1) (k := 2 * i + 1) (by have := hL.out; have := HM.out; omega)
      by_cases h2 : (2 * (i : Int) + 1 + 1) < m
      · have hx2 := at_hf (L := L1) (k := 2 * i + 1 + 1) (by have := hL.out; have := HM.out; omega)
        go_wp2_with fail
        refine (less_any g c n (2 * i + 1 + 1) (2 * i + 1) L1 _ _ wr R1.out hL.out.symm hx2 hx1 (B1.out.each _ (List.mem_of_getElem? hx2)).1 (B1.out.each _ (List.mem_of_getElem? hx1)).1).mono ?_
        rintro e w1 ⟨rfl, hb⟩
        have t1 := Turns.of_below hb (fun _ => False)
        have hcellq := t1.cell hcell (fun x => x)
        have hmq := method_less p o n c _ w1 hcellq
        have Bq := hide (B1.out.quiet t1)
        have Rq := hide (R1.out.keep t1 (fun x => x))
        have Tq := hide (T1.out.trans (Turns.of_below hb _))
        clear hb t1
        by_cases hl : ltH (hf L1 (2 * i + 1 + 1)) (hf L1 (2 * i + 1))
        · simp only [hl, decide_true]
          have HC := hide (show ∀ k, 0 < k → k < m → (k - 1) / 2 = i → ¬ ltH (hf L1 k) (hf L1 (2 * i + 1 + 1)) from fun k h0 hk e => by
            rcases (show k = 2 * i + 1 ∨ k = 2 * i + 1 + 1 by omega) with rfl | rfl
            · exact ltH_asym _ _ hl
            · exact ltH_irr _)
          clear hl
          go_wp2_with fail
          have hxJ := at_hf (L := L1) (k := 2 * i + 1 + 1) (by have := hL.out; have := HM.out; omega)
          have hyI := at_hf (L := L1) (k := i) (by have := hL.out; have := HM.out; omega)
          refine (less_any g c n (2 * i + 1 + 1) i L1 _ _ _ Rq.out hL.out.symm hxJ hyI (Bq.out.each _ (List.mem_of_getElem? hxJ)).1 (Bq.out.each _ (List.mem_of_getElem? hyI)).1).mono ?_
          rintro e w2 ⟨rfl, hb⟩
          have t1 := Turns.of_below hb (fun _ => False)
          have hcell2 := t1.cell hcellq (fun x => x)
          have hm3 := method_swap p o n c _ w2 hcell2
          have B2 := hide (Bq.out.quiet t1)
          have R2 := hide (Rq.out.keep t1 (fun x => x))
          have T2 := hide (Tq.out.trans (Turns.of_below hb _))
          clear hb t1
          by_cases hl : ltH (hf L1 (2 * i + 1 + 1)) (hf L1 i)
          · simp only [hl, decide_true]
            have HL := hide hl
            clear hl
            go_wp2_with fail
            refine (swap_any g c n i (2 * i + 1 + 1) L1 _ _ w2 R2.out hL.out.symm hyI hxJ).mono ?_
            rintro e w3 ⟨⟨v, rfl⟩, hR3, hT3⟩
            have hP3 := Hp.swapL_perm L1 i (2 * i + 1 + 1) _ _ hyI hxJ
            have B3 := hide (HB.turn (by rw [hL.out]; exact B2.out) hT3 hR3 hP3 hgp hsg)
            have R3 := hide hR3
            have P3 := hide (hP3.trans P1.out)
            have D3 := hide ((swap_drop (L := L1) (i := i) (j := 2 * i + 1 + 1) (m := m) (by omega) (by omega) (by rw [hL.out]; exact HM.out)).trans D1.out)
            have T3 := hide (T2.out.trans hT3)
            have U3 := hide (show Hp.HeapDown ltH (hf (Hp.swapL L1 i (2 * i + 1 + 1) (hf L1 i) (hf L1 (2 * i + 1 + 1)))) m (2 * i + 1 + 1) by
              rw [hf_swap L1 _ _ (by have := hL.out; have := HM.out; omega) (by have := hL.out; have := HM.out; omega)]
              exact Hp.down_step ltH_asym U1.out (by omega) (by omega) (by omega) HC.out HL.out)
            clear hR3 hT3 hP3
            go_wp2_with fail
            go_roundw
            case rel => exact ⟨2 * i + 1 + 1, _, rfl, by have := HM.out; omega, by have := B3.out; rw [hL.out] at this; exact this, R3.out, P3.out, D3.out, U3.out, T3.out⟩
            case measure => simp [intOf]; omega
          · simp only [hl, decide_false]
            have HL := hide hl
            clear hl
            go_wp2_with fail
            go_ret
            exact ⟨L1, ⟨_, rfl⟩, B2.out, R2.out, P1.out, D1.out, Hp.down_done2 ltH_tr U1.out HC.out HL.out, T2.out⟩
        · simp only [hl, decide_false]
          have HC := hide (show ∀ k, 0 < k → k < m → (k - 1) / 2 = i → ¬ ltH (hf L1 k) (hf L1 (2 * i + 1)) from fun k h0 hk e => by
            rcases (show k = 2 * i + 1 ∨ k = 2 * i + 1 + 1 by omega) with rfl | rfl
            · exact ltH_irr _
            · exact hl)
          clear hl
          go_wp2_with fail
          have hxJ := at_hf (L := L1) (k := 2 * i + 1) (by have := hL.out; have := HM.out; omega)
          have hyI := at_hf (L := L1) (k := i) (by have := hL.out; have := HM.out; omega)
          refine (less_any g c n (2 * i + 1) i L1 _ _ _ Rq.out hL.out.symm hxJ hyI (Bq.out.each _ (List.mem_of_getElem? hxJ)).1 (Bq.out.each _ (List.mem_of_getElem? hyI)).1).mono ?_
          rintro e w2 ⟨rfl, hb⟩
          have t1 := Turns.of_below hb (fun _ => False)
          have hcell2 := t1.cell hcellq (fun x => x)
          have hm3 := method_swap p o n c _ w2 hcell2
          have B2 := hide (Bq.out.quiet t1)
          have R2 := hide (Rq.out.keep t1 (fun x => x))
          have T2 := hide (Tq.out.trans (Turns.of_below hb _))
          clear hb t1
          by_cases hl : ltH (hf L1 (2 * i + 1)) (hf L1 i)
          · simp only [hl, decide_true]
            have HL := hide hl
            clear hl
            go_wp2_with fail
            refine (swap_any g c n i (2 * i + 1) L1 _ _ w2 R2.out hL.out.symm hyI hxJ).mono ?_
            rintro e w3 ⟨⟨v, rfl⟩, hR3, hT3⟩
            have hP3 := Hp.swapL_perm L1 i (2 * i + 1) _ _ hyI hxJ
            have B3 := hide (HB.turn (by rw [hL.out]; exact B2.out) hT3 hR3 hP3 hgp hsg)
            have R3 := hide hR3
            have P3 := hide (hP3.trans P1.out)
            have D3 := hide ((swap_drop (L := L1) (i := i) (j := 2 * i + 1) (m := m) (by omega) (by omega) (by rw [hL.out]; exact HM.out)).trans D1.out)
            have T3 := hide (T2.out.trans hT3)
            have U3 := hide (show Hp.HeapDown ltH (hf (Hp.swapL L1 i (2 * i + 1) (hf L1 i) (hf L1 (2 * i + 1)))) m (2 * i + 1) by
              rw [hf_swap L1 _ _ (by have := hL.out; have := HM.out; omega) (by have := hL.out; have := HM.out; omega)]
              exact Hp.down_step ltH_asym U1.out (by omega) (by omega) (by omega) HC.out HL.out)
            clear hR3 hT3 hP3
            go_wp2_with fail
            go_roundw
            case rel => exact ⟨2 * i + 1, _, rfl, by have := HM.out; omega, by have := B3.out; rw [hL.out] at this; exact this, R3.out, P3.out, D3.out, U3.out, T3.out⟩
            case measure => simp [intOf]; omega
          · simp only [hl, decide_false]
            have HL := hide hl
            clear hl
            go_wp2_with fail
            go_ret
            exact ⟨L1, ⟨_, rfl⟩, B2.out, R2.out, P1.out, D1.out, Hp.down_done2 ltH_tr U1.out HC.out HL.out, T2.out⟩
      · have HC := hide (show ∀ k, 0 < k → k < m → (k - 1) / 2 = i → ¬ ltH (hf L1 k) (hf L1 (2 * i + 1)) from fun k h0 hk e => by
          obtain rfl : k = 2 * i + 1 := by omega
          exact ltH_irr _)
        have hcellq := hcell
        have Bq := B1
        have Rq := R1
        have Tq := T1
        go_wp2_with fail
        have hxJ := at_hf (L := L1) (k := 2 * i + 1) (by have := hL.out; have := HM.out; omega)
        have hyI := at_hf (L := L1) (k := i) (by have := hL.out; have := HM.out; omega)
        refine (less_any g c n (2 * i + 1) i L1 _ _ _ Rq.out hL.out.symm hxJ hyI (Bq.out.each _ (List.mem_of_getElem? hxJ)).1 (Bq.out.each _ (List.mem_of_getElem? hyI)).1).mono ?_
        rintro e w2 ⟨rfl, hb⟩
        have t1 := Turns.of_below hb (fun _ => False)
        have hcell2 := t1.cell hcellq (fun x => x)
        have hm3 := method_swap p o n c _ w2 hcell2
        have B2 := hide (Bq.out.quiet t1)
        have R2 := hide (Rq.out.keep t1 (fun x => x))
        have T2 := hide (Tq.out.trans (Turns.of_below hb _))
        clear hb t1
        by_cases hl : ltH (hf L1 (2 * i + 1)) (hf L1 i)
        · simp only [hl, decide_true]
          have HL := hide hl
          clear hl
          go_wp2_with fail
          refine (swap_any g c n i (2 * i + 1) L1 _ _ w2 R2.out hL.out.symm hyI hxJ).mono ?_
          rintro e w3 ⟨⟨v, rfl⟩, hR3, hT3⟩
          have hP3 := Hp.swapL_perm L1 i (2 * i + 1) _ _ hyI hxJ
          have B3 := hide (HB.turn (by rw [hL.out]; exact B2.out) hT3 hR3 hP3 hgp hsg)
          have R3 := hide hR3
          have P3 := hide (hP3.trans P1.out)
          have D3 := hide ((swap_drop (L := L1) (i := i) (j := 2 * i + 1) (m := m) (by omega) (by omega) (by rw [hL.out]; exact HM.out)).trans D1.out)
          have T3 := hide (T2.out.trans hT3)
          have U3 := hide (show Hp.HeapDown ltH (hf (Hp.swapL L1 i (2 * i + 1) (hf L1 i) (hf L1 (2 * i + 1)))) m (2 * i + 1) by
            rw [hf_swap L1 _ _ (by have := hL.out; have := HM.out; omega) (by have := hL.out; have := HM.out; omega)]
            exact Hp.down_step ltH_asym U1.out (by omega) (by omega) (by omega) HC.out HL.out)
          clear hR3 hT3 hP3
          go_wp2_with fail
          go_roundw
          case rel => exact ⟨2 * i + 1, _, rfl, by have := HM.out; omega, by have := B3.out; rw [hL.out] at this; exact this, R3.out, P3.out, D3.out, U3.out, T3.out⟩
          case measure => simp [intOf]; omega
        · simp only [hl, decide_false]
          have HL := hide hl
          clear hl
          go_wp2_with fail
          go_ret
          exact ⟨L1, ⟨_, rfl⟩, B2.out, R2.out, P1.out, D1.out, Hp.down_done2 ltH_tr U1.out HC.out HL.out, T2.out⟩
end Go.Proofs.Ytjnpendihdlgnaa

/-
  A head is put behind the others.
-/
namespace Go.Proofs.Ytjnpendihdlgnaa
open Go.RowKit
set_option maxRecDepth 100000
set_option maxHeartbeats 4000000
theorem t84_size : Try.t84.size = 2 := by kernel_rfl
theorem t84_bytes : Try.t84.bytes = 32 := by kernel_rfl
theorem t84_info : Try.prog.info? 84 = some Try.t84 := by kernel_rfl
theorem t84_zero : Try.t84.zero = some (.agg #[.slice none 0 0, .int .i64 0]) := by kernel_rfl
theorem hdCells_snoc (L : List Hd) (x : Hd) : hdCells (L ++ [x]) = hdCells L ++ [x.sv, .int .i64 (x.no : Nat)] := by simp [hdCells]
theorem set_set (cs : Array Value) (o : Nat) (a b : Value) : (cs.setIfInBounds o a).setIfInBounds o b = cs.setIfInBounds o b := by
  apply Array.ext_getElem?
  intro i
  simp only [Array.getElem?_setIfInBounds, Array.size_setIfInBounds]
  split <;> rfl
/-- What append answers of one head. -/
theorem append_head (w : World) (v : Value) (L : List Hd) (hrow : (v = .slice none 0 0 ∧ L = []) ∨ ∃ g c, v = .slice (some ⟨g, 0, none⟩) L.length c ∧ HRow w g c L) (hlen : L.length ≤ 1000000) (x : Hd) (q c1 : Nat) (hq : w.heap[q]? = some (.cells #[x.sv, .int .i64 (x.no : Nat)] 84 (0, 0))) :
    ∃ (g' c' : Nat) (w' : World), (∀ ty, (Builtin.append_ #[50, 50] ty #[v, .slice (some ⟨q, 0, none⟩) 1 c1]).run Try.prog w = .ok (.slice (some ⟨g', 0, none⟩) (L.length + 1) c') w') ∧ HRow w' g' c' (L ++ [x]) ∧ Turns (inRow v) w w' ∧ (inRow v g' ∨ g' = w.heap.size) := by
  have hcell : ∀ j, w.cell? ⟨q, j, none⟩ = (#[x.sv, .int .i64 (x.no : Nat)] : Array Value)[j]? := fun j => cell_of_row w q j _ 84 (0, 0) hq
  have hsrc : Src Try.prog Try.t84.size 50 (.slice (some ⟨q, 0, none⟩) 1 c1) 1 [x.sv, .int .i64 (x.no : Nat)] w := Src.ofSlice w Try.underlying50 ⟨q, 0, none⟩ 1 c1 _ (by rw [t84_size]; rfl) (fun j u hu => by
    rw [Go.WideShapes.add_plain, Nat.zero_add, hcell j]
    simpa using hu) (fun u hu => by
    simp only [List.mem_cons, List.not_mem_nil, or_false] at hu
    rcases hu with rfl | rfl <;> rfl)
  obtain ⟨base, sLen, sCap, rfl, hsl, hbase⟩ : ∃ (base : Option Addr) (sLen sCap : Nat), v = .slice base sLen sCap ∧ sLen = L.length ∧ ((base = none ∧ sLen = 0 ∧ sCap = 0 ∧ 0 < 1) ∨ ∃ g, base = some ⟨g, 0, none⟩ ∧ 0 ≤ g ∧ sLen ≤ sCap ∧ RowC w g 84 (sCap * Try.t84.size) (hdCells L)) := by
    rcases hrow with ⟨rfl, rfl⟩ | ⟨g, c, rfl, h4, h5⟩
    · exact ⟨none, 0, 0, rfl, rfl, .inl ⟨rfl, rfl, rfl, by omega⟩⟩
    · exact ⟨_, _, _, rfl, rfl, .inr ⟨g, rfl, Nat.zero_le _, h4, by rw [t84_size]; exact h5⟩⟩
  obtain ⟨g', cp, w', hr, hg', hrw, hb, hcp, hin, hnew, hkeep⟩ := append_gen2 (P := Try.prog) w 0 50 84 Try.t84 _ Try.underlying50 t84_info t84_zero rfl base sLen sCap (hdCells L) (by rw [t84_size, hsl, hdCells_length]) _ 1 _ hsrc (Nat.zero_le _) hbase (by rw [t84_bytes]; omega) (by omega)
  subst hsl
  refine ⟨g', cp, w', hr, ⟨by simpa using hcp, ?_⟩, ⟨hb.os, hb.tape, hb.output, hb.size, fun k hk hn => hkeep k hk fun e => hn ⟨_, sCap, by rw [e]⟩⟩, ?_⟩
  · rw [t84_size] at hrw
    rw [hdCells_snoc]
    exact hrw
  · rcases Nat.lt_or_ge sCap (L.length + 1) with h1 | h1
    · exact .inr (hnew h1)
    · exact .inl ⟨_, sCap, by rw [(hin h1).1]⟩
/-- What came of the heads: some blocks turned, and where their row lies. -/
def Moved (p : Nat) (v v' : Value) (w w' : World) : Prop := Turns (fun k => k = p ∨ inRow v k) w w' ∧ ∀ k, inRow v' k → inRow v k ∨ w.heap.size ≤ k
theorem Moved.trans {p : Nat} {v v' v'' : Value} {a b c : World} (h : Moved p v v' a b) (k : Moved p v' v'' b c) : Moved p v v'' a c :=
  ⟨h.1.andThen k.1 fun i hi hs => by
    rcases hs with hs | hs
    · exact .inl hs
    · rcases h.2 i hs with x | x
      · exact .inr x
      · omega, fun i hi => by
    rcases k.2 i hi with x | x
    · exact h.2 i x
    · exact .inr (Nat.le_trans h.1.size x)⟩
theorem Moved.row {p g n c n' c' : Nat} {w w' : World} (h : Turns (fun k => k = g) w w') : Moved p (.slice (some ⟨g, 0, none⟩) n c) (.slice (some ⟨g, 0, none⟩) n' c') w w' :=
  ⟨h.mono fun k _ e => .inr ⟨n, c, by rw [e]⟩, fun k hk => .inl (by obtain ⟨_, _, e⟩ := hk; cases e; exact ⟨_, _, rfl⟩)⟩
theorem Moved.quiet {p : Nat} {v : Value} {w w' : World} (h : Turns (fun _ => False) w w') : Moved p v v w w' := ⟨h.mono fun _ _ x => x.elim, fun _ hk => .inl hk⟩
theorem push_any (S : Nat → Prop) (p o t : Nat) (cs : Array Value) (v : Value) (L : List Hd) (x : Hd) (w : World) (h : HB S w p o t cs v L) (hx : HdOk w x) (hxs : ∀ q, x.uses q → ¬ S q) (hlen : L.length < 1000000) :
    Calls Try.prog 91 #[.pointer (some ⟨p, o, none⟩), .iface 84 (.agg #[.slice (some ⟨x.b, x.off, none⟩) x.R.length x.c, .int .i64 (x.no : Nat)])] w fun e w' => ∃ g c, (∃ u, e = .returned u) ∧ HB S w' p o t cs (.slice (some ⟨g, 0, none⟩) (L.length + 1) c) (L ++ [x]) ∧ HRow w' g c (L ++ [x]) ∧ g ≠ p ∧ S g ∧ Moved p v (.slice (some ⟨g, 0, none⟩) (L.length + 1) c) w w' := by
  have hrow := h.row
  have hcell := h.cell
  obtain ⟨a, n, c, rfl⟩ : ∃ a n c, v = .slice a n c := by
    rcases hrow with ⟨rfl, _⟩ | ⟨g, c, rfl, _⟩
    · exact ⟨_, _, _, rfl⟩
    · exact ⟨_, _, _, rfl⟩
  obtain ⟨xb, xo, xc, xR, xn⟩ := x
  simp only at *
  generalize hxl : xR.length = xl at *
  have t0 : Turns (fun _ => False) w (w.drew.alloc (.cells #[.slice (some ⟨xb, xo, none⟩) xl xc, .int .i64 (xn : Nat)] 84)) := (Turns.refl _ w).drew.alloc _
  have hrow0 : (Value.slice a n c = .slice none 0 0 ∧ L = []) ∨ ∃ g c', Value.slice a n c = .slice (some ⟨g, 0, none⟩) L.length c' ∧ HRow (w.drew.alloc (.cells #[.slice (some ⟨xb, xo, none⟩) xl xc, .int .i64 (xn : Nat)] 84)) g c' L := by
    rcases hrow with e | ⟨g, c', e, h1, _⟩
    · exact .inl e
    · exact .inr ⟨g, c', e, h1.keep t0 (fun x => x)⟩
  have hq := heap_alloc_new w.drew (.cells #[.slice (some ⟨xb, xo, none⟩) xl xc, .int .i64 (xn : Nat)] 84)
  obtain ⟨g', c', w', hr, hrow', ht', hg'⟩ := append_head (w.drew.alloc (.cells #[.slice (some ⟨xb, xo, none⟩) xl xc, .int .i64 (xn : Nat)] 84)) (.slice a n c) L hrow0 (by omega) ⟨xb, xo, xc, xR, xn⟩ w.drew.heap.size 1 (by rw [hq]; simp only [Hd.sv, hxl])
  have hinp : ∀ k, inRow (.slice a n c) k → k ≠ p ∧ S k := fun k ⟨n', c', e⟩ => by
    rcases hrow with ⟨e1, _⟩ | ⟨g, c1, e1, _, h2, h3⟩
    · rw [e1] at e; cases e
    · rw [e1] at e; cases e; exact ⟨h2, h3⟩
  have hpl := lt_of_heap h.blk
  have hsz : (w.drew.alloc (.cells #[.slice (some ⟨xb, xo, none⟩) xl xc, .int .i64 (xn : Nat)] 84)).heap.size = w.heap.size + 1 := by simp
  have hgp : g' ≠ p ∧ S g' := by
    rcases hg' with e | e
    · exact hinp _ e
    · rw [hsz] at e
      exact ⟨by omega, h.up _ (by omega)⟩
  have hblk' : w'.heap[p]? = some (.cells (cs.setIfInBounds o (.slice a n c)) t (0, 0)) := ht'.heap (t0.heap h.blk (fun x => x)) fun e => (hinp p e).1 rfl
  have cellp := cell_of_row w' p o _ t (0, 0) hblk'
  rw [Array.getElem?_setIfInBounds_self_of_lt h.at'] at cellp
  have frp := frozen_of_row w' p o _ t hblk'
  have hblk2 := heap_setCell_same w' p o _ t (.slice (some ⟨g', 0, none⟩) (L.length + 1) c') hblk'
  rw [set_set] at hblk2
  have tp : Turns (fun k => k = p) w' (w'.setCell ⟨p, o, none⟩ (.slice (some ⟨g', 0, none⟩) (L.length + 1) c')) := turns_cell (Turns.refl _ _) _ _
  have hall : Turns (fun k => k = p ∨ inRow (.slice a n c) k) w (w'.setCell ⟨p, o, none⟩ (.slice (some ⟨g', 0, none⟩) (L.length + 1) c')) :=
    ((t0.mono fun _ _ x => x.elim).trans (ht'.mono fun _ _ x => .inr x)).trans (tp.mono fun _ _ x => .inl x)
  have FIN := hide (show ∃ g c1, (∃ u, Ending.returned (.tuple #[]) = .returned u) ∧ HB S (w'.setCell ⟨p, o, none⟩ (.slice (some ⟨g', 0, none⟩) (L.length + 1) c')) p o t cs (.slice (some ⟨g, 0, none⟩) (L.length + 1) c1) (L ++ [⟨xb, xo, xc, xR, xn⟩]) ∧ HRow (w'.setCell ⟨p, o, none⟩ (.slice (some ⟨g', 0, none⟩) (L.length + 1) c')) g c1 (L ++ [⟨xb, xo, xc, xR, xn⟩]) ∧ g ≠ p ∧ S g ∧ Moved p (.slice a n c) (.slice (some ⟨g, 0, none⟩) (L.length + 1) c1) w (w'.setCell ⟨p, o, none⟩ (.slice (some ⟨g', 0, none⟩) (L.length + 1) c')) by
    have hrw : HRow (w'.setCell ⟨p, o, none⟩ (.slice (some ⟨g', 0, none⟩) (L.length + 1) c')) g' c' (L ++ [⟨xb, xo, xc, xR, xn⟩]) := hrow'.keep tp hgp.1
    have hSall : ∀ k, (k = p ∨ inRow (.slice a n c) k) → S k := fun k hk => by
      rcases hk with e | e
      · rw [e]; exact h.sp
      · exact (hinp k e).2
    refine ⟨g', c', ⟨_, rfl⟩, ⟨hblk2, h.at', h.sp, fun k hk => h.up k (Nat.le_trans hall.size hk), .inr ⟨g', c', by rw [List.length_append]; rfl, hrw, hgp.1, hgp.2⟩, fun y hy => ?_, by rw [List.length_append]; simp; omega⟩, hrw, hgp.1, hgp.2, hall, fun k hk => ?_⟩
    · rcases List.mem_append.1 hy with hy | hy
      · exact ⟨(h.each y hy).1.keep hall fun q hq e => (h.each y hy).2 q hq (hSall q e), (h.each y hy).2⟩
      · obtain rfl : y = ⟨xb, xo, xc, xR, xn⟩ := by simpa using hy
        exact ⟨hx.keep hall fun q hq e => hxs q hq (hSall q e), hxs⟩
    · obtain ⟨_, _, e⟩ := hk
      cases e
      rcases hg' with x | x
      · exact .inl x
      · rw [hsz] at x
        exact .inr (by omega))
  have hta : ∀ w, (Instr.typeAssert (.iface 84 (.agg #[.slice (some ⟨xb, xo, none⟩) xl xc, .int .i64 (xn : Nat)])) 20 84 false).run Try.prog w = .ok (.agg #[.slice (some ⟨xb, xo, none⟩) xl xc, .int .i64 (xn : Nat)]) w := fun w => by kernel_rfl
  have HA := hide hr
  have SK := hide (show w.drew.cell? ⟨p, o, none⟩ = some (.slice a n c) from hcell)
  have DR := hide (show w.drew.heap.size = w.heap.size from rfl)
  rw [DR.out] at HA
  clear h hrow hx hxs t0 hrow0 hq hr hrow' ht' hg' hinp hsz hgp hblk' hblk2 tp hall hxl hcell
  go_enter Try.func91, Try.ntmps91
  go_upto_region 0 with (fail)
  refine wp_region_z_drew 7 (S := fun u => u.cell? ⟨p, o, none⟩ = some (.slice a n c)) (by kernel_rfl) SK.out (fun _ => ?_)
  change wpAnyZ _ _ _ _ _ _ 10 (Array.replicate 10 false) _ _
  refine wpAnyZ_late (i := 0) (oi := { dst := some 4, op := Op.move (Operand.tmp 0), type := 82, pos := "heads.go:84", after := #[], guard := none }) (v := .pointer (some ⟨p, o, none⟩)) rfl (by kernel_rfl) (by kernel_rfl) (by kernel_rfl) (by kernel_rfl) (fun _ _ _ h => h) (Or.inl ⟨by rfl, ?_⟩) (.inr SK.out) ?_
  · rintro w -
    go_simp
  simp only [Act.put, List.setIfInBounds_toArray, List.set_cons_zero, List.set_cons_succ]
  refine wpAnyZ_late (i := 1) (oi := { dst := some 5, op := Op.move (Operand.tmp 0), type := 82, pos := "heads.go:84", after := #[], guard := none }) (v := .pointer (some ⟨p, o, none⟩)) rfl (by kernel_rfl) (by kernel_rfl) (by kernel_rfl) (by kernel_rfl) (fun _ _ _ h => h) (Or.inl ⟨by rfl, ?_⟩) (.inr SK.out) ?_
  · rintro w -
    go_simp
  simp only [Act.put, List.setIfInBounds_toArray, List.set_cons_zero, List.set_cons_succ]
  refine wpAnyZ_late (i := 2) (oi := { dst := some 6, op := Op.nilCheck (Operand.tmp 5), type := 0, pos := "heads.go:84", after := #[{ on := 1, ground := Ground.data }], guard := none }) (v := .pointer (some ⟨p, o, none⟩)) rfl (by kernel_rfl) (by kernel_rfl) (by kernel_rfl) (by kernel_rfl) (fun _ _ _ h => h) (Or.inl ⟨by rfl, ?_⟩) (.inr SK.out) ?_
  · rintro w -
    go_simp
  simp only [Act.put, List.setIfInBounds_toArray, List.set_cons_zero, List.set_cons_succ]
  refine wpAnyZ_take (i := 3) (oi := { dst := some 7, op := Op.load 50 (Operand.tmp 6), type := 50, pos := "heads.go:84", after := #[{ on := 2, ground := Ground.data }], guard := none }) (v := .slice a n c) rfl (by kernel_rfl) (by kernel_rfl) (by kernel_rfl) (by kernel_rfl) (fun _ _ _ h => h) (Or.inl ⟨by rfl, ?_⟩) SK.out ?_
  · rintro w hc
    go_simp
  simp only [Act.put, List.setIfInBounds_toArray, List.set_cons_zero, List.set_cons_succ]
  refine wpAnyZ_late (i := 4) (oi := { dst := some 8, op := Op.move (Operand.tmp 1), type := 20, pos := "heads.go:84", after := #[], guard := none }) (v := .iface 84 (.agg #[.slice (some ⟨xb, xo, none⟩) xl xc, .int .i64 (xn : Nat)])) rfl (by kernel_rfl) (by kernel_rfl) (by kernel_rfl) (by kernel_rfl) (fun _ _ _ h => h) (Or.inl ⟨by rfl, ?_⟩) (.inr SK.out) ?_
  · rintro w -
    go_simp
  simp only [Act.put, List.setIfInBounds_toArray, List.set_cons_zero, List.set_cons_succ]
  refine wpAnyZ_late (i := 5) (oi := { dst := some 9, op := Op.typeAssert (Operand.tmp 8) 20 84 false, type := 84, pos := "heads.go:84", after := #[{ on := 4, ground := Ground.data }], guard := none }) (v := .agg #[.slice (some ⟨xb, xo, none⟩) xl xc, .int .i64 (xn : Nat)]) rfl (by kernel_rfl) (by kernel_rfl) (by kernel_rfl) (by kernel_rfl) (fun _ _ _ h => h) (Or.inl ⟨by rfl, ?_⟩) (.inr SK.out) ?_
  · rintro w -
    go_simp
  simp only [Act.put, List.setIfInBounds_toArray, List.set_cons_zero, List.set_cons_succ]
  refine wpAnyZ_ready (rs := [6]) (by kernel_rfl) (by simp) ?_
  refine AllReadyZ.cons rfl (fun K hK => ?_) AllReadyZ.nil
  go_simp
  refine hK.out _ _ (alloc_keep SK.out _) (fun _ => ?_)
  clear hK K
  rw [show (w.alloc (.cells #[.slice (some ⟨xb, xo, none⟩) xl xc, .int .i64 (xn : Nat)] 84)).drew = w.drew.alloc (.cells #[.slice (some ⟨xb, xo, none⟩) xl xc, .int .i64 (xn : Nat)] 84) from rfl]
  generalize hV1 : w.drew.alloc (.cells #[.slice (some ⟨xb, xo, none⟩) xl xc, .int .i64 (xn : Nat)] 84) = V1 at *
  generalize hG1 : w.heap.size = G1 at *
  refine wpAnyZ_ready (rs := [7]) (by kernel_rfl) (by simp) ?_
  refine AllReadyZ.free rfl (by kernel_rfl) (fun K hK => ?_) AllReadyZ.nil
  refine step_append_run rfl (.tmp 7) (.tmp 10) 50 rfl (.slice a n c) (.slice (some ⟨G1, 0, none⟩) 1 1) rfl rfl _ _ (HA.out _) _ rfl ?_
  refine hK.out _ _ ?_
  clear hK K
  refine wpAnyZ_late (i := 8) (oi := { dst := some 12, op := Op.nilCheck (Operand.tmp 4), type := 0, pos := "heads.go:84", after := #[{ on := 0, ground := Ground.data }, { on := 0, ground := Ground.phase }, { on := 1, ground := Ground.phase }, { on := 2, ground := Ground.phase }, { on := 3, ground := Ground.phase }, { on := 4, ground := Ground.phase }, { on := 5, ground := Ground.phase }, { on := 6, ground := Ground.phase }, { on := 7, ground := Ground.phase }], guard := none }) (v := .pointer (some ⟨p, o, none⟩)) rfl (by kernel_rfl) (by kernel_rfl) (by kernel_rfl) (by kernel_rfl) (fun _ _ _ h => h) (Or.inl ⟨by rfl, ?_⟩) (.inl (by kernel_rfl)) ?_
  · rintro w -
    go_simp
  simp only [Act.put, List.setIfInBounds_toArray, List.set_cons_zero, List.set_cons_succ]
  refine wpAnyZ_ready (rs := [9]) (by kernel_rfl) (by simp) ?_
  refine AllReadyZ.free rfl (by kernel_rfl) (fun K hK => ?_) AllReadyZ.nil
  go_simp
  refine hK.out _ _ ?_
  clear hK K
  refine wpAnyZ_done (by kernel_rfl) ?_ _
  go_wp2_with fail
  go_end0
  exact FIN.out
end Go.Proofs.Ytjnpendihdlgnaa

/-
  The last head is taken away.
-/
namespace Go.Proofs.Ytjnpendihdlgnaa
open Go.RowKit
set_option maxRecDepth 100000
set_option maxHeartbeats 4000000
theorem RowC.pre {w : World} {g e room : Nat} {a b : List Value} (h : RowC w g e room b) (hl : a.length ≤ b.length) (hk : ∀ k, k < a.length → b[k]? = a[k]?) : RowC w g e room a := by
  obtain ⟨cs, h1, h2, h3⟩ := h
  exact ⟨cs, h1, h2, fun k hk' => (h3 k (by omega)).trans (hk k hk')⟩
theorem pop_any (S : Nat → Prop) (p o t g c m : Nat) (cs : Array Value) (L : List Hd) (x : Hd) (w : World) (hm : m = L.length) (h : HB S w p o t cs (.slice (some ⟨g, 0, none⟩) (m + 1) c) (L ++ [x])) (hrow : HRow w g c (L ++ [x])) (hgp : g ≠ p) (hsg : S g) :
    Calls Try.prog 90 #[.pointer (some ⟨p, o, none⟩)] w fun e w' => e = .returned (.iface 84 (.agg #[.slice (some ⟨x.b, x.off, none⟩) x.R.length x.c, .int .i64 (x.no : Nat)])) ∧ HB S w' p o t cs (.slice (some ⟨g, 0, none⟩) m c) L ∧ HRow w' g c L ∧ Moved p (.slice (some ⟨g, 0, none⟩) (m + 1) c) (.slice (some ⟨g, 0, none⟩) m c) w w' := by
  have hcell := h.cell
  have hx : (L ++ [x])[m]? = some x := by rw [hm]; simp
  obtain ⟨a0, a1⟩ := hrow.at hx
  have hmc : m + 1 ≤ c := by have := hrow.1; rw [List.length_append] at this; simp at this; omega
  have hlen : (m : Int) ≤ 1000000 := by have := h.len; rw [List.length_append] at this; simp at this; omega
  have z0 := hrow.frozen (m * 2)
  have z1 := hrow.frozen (m * 2 + 1)
  have T0 := hide ((Turns.refl (fun _ => False) w).alloc (.cells #[.slice (some ⟨x.b, x.off, none⟩) x.R.length x.c, .int .i64 (x.no : Nat)] 84))
  have hgl := hrow.lt
  obtain ⟨w0, hw0⟩ : ∃ w0, w0 = w.alloc (.cells #[.slice (some ⟨x.b, x.off, none⟩) x.R.length x.c, .int .i64 (x.no : Nat)] 84) := ⟨_, rfl⟩
  rw [← hw0] at T0
  have hnew : w0.heap[w.heap.size]? = some (.cells #[.slice (some ⟨x.b, x.off, none⟩) x.R.length x.c, .int .i64 (x.no : Nat)] 84 (0, 0)) := by rw [hw0]; exact heap_alloc_new w _
  have R0 := hrow.keep T0.out (fun x => x)
  have B0 := h.quiet T0.out
  have hr2 : RowC ((w0.setCell ⟨g, m * 2, none⟩ (.slice none 0 0)).setCell ⟨g, m * 2 + 1, none⟩ (.int .i64 0)) g 84 (c * 2) (hdCells L) := by
    refine (((R0.2.set (m * 2) _).set (m * 2 + 1) _)).pre ?_ fun k hk => ?_
    · simp only [List.length_set, hdCells_length, List.length_append]; simp; omega
    · rw [hdCells_length] at hk
      rw [List.getElem?_set_ne (by omega), List.getElem?_set_ne (by omega), hdCells_snoc, List.getElem?_append_left (by rw [hdCells_length]; omega)]
  have t2 : Turns (fun k => k = g) w0 ((w0.setCell ⟨g, m * 2, none⟩ (.slice none 0 0)).setCell ⟨g, m * 2 + 1, none⟩ (.int .i64 0)) := turns_cell (turns_cell (Turns.refl _ _) _ _) _ _
  have R2 : HRow ((w0.setCell ⟨g, m * 2, none⟩ (.slice none 0 0)).setCell ⟨g, m * 2 + 1, none⟩ (.int .i64 0)) g c L := ⟨by omega, hr2⟩
  have hblk2 := t2.heap B0.blk (Ne.symm hgp)
  have hnew2 := t2.heap hnew (by show ¬ w.heap.size = g; omega)
  generalize hw2 : (w0.setCell ⟨g, m * 2, none⟩ (.slice none 0 0)).setCell ⟨g, m * 2 + 1, none⟩ (.int .i64 0) = w2 at *
  have hblk3 := heap_setCell_same w2 p o _ t (.slice (some ⟨g, 0, none⟩) m c) hblk2
  rw [set_set] at hblk3
  have t3 : Turns (fun k => k = p) w2 (w2.setCell ⟨p, o, none⟩ (.slice (some ⟨g, 0, none⟩) m c)) := turns_cell (Turns.refl _ _) _ _
  have hall : Turns (fun k => k = p ∨ inRow (.slice (some ⟨g, 0, none⟩) (m + 1) c) k) w (w2.setCell ⟨p, o, none⟩ (.slice (some ⟨g, 0, none⟩) m c)) :=
    ((T0.out.mono fun _ _ x => x.elim).trans (t2.mono fun k _ e => .inr ⟨_, _, by rw [e]⟩)).trans (t3.mono fun _ _ e => .inl e)
  have hrw := R2.keep t3 hgp
  have FIN := hide (show HB S (w2.setCell ⟨p, o, none⟩ (.slice (some ⟨g, 0, none⟩) m c)) p o t cs (.slice (some ⟨g, 0, none⟩) m c) L ∧ HRow (w2.setCell ⟨p, o, none⟩ (.slice (some ⟨g, 0, none⟩) m c)) g c L ∧ Moved p (.slice (some ⟨g, 0, none⟩) (m + 1) c) (.slice (some ⟨g, 0, none⟩) m c) w (w2.setCell ⟨p, o, none⟩ (.slice (some ⟨g, 0, none⟩) m c)) by
    refine ⟨⟨hblk3, h.at', h.sp, fun k hk => h.up k (Nat.le_trans hall.size hk), .inr ⟨g, c, by rw [hm], hrw, hgp, hsg⟩, fun y hy => ?_, ?_⟩, hrw, hall, fun k hk => .inl ?_⟩
    · have := h.each y (List.mem_append_left _ hy)
      refine ⟨this.1.keep hall fun q hq e => this.2 q hq ?_, this.2⟩
      rcases e with e | ⟨_, _, e⟩
      · rw [e]; exact h.sp
      · cases e; exact hsg
    · have := h.len; rw [List.length_append] at this; omega
    · obtain ⟨_, _, e⟩ := hk
      cases e; exact ⟨_, _, rfl⟩)
  have hcell0 := B0.cell
  have z2 := R0.frozen (m * 2)
  have z3 := R0.frozen (m * 2 + 1)
  obtain ⟨b0, b1⟩ := R0.at hx
  have hcell2 : w2.cell? ⟨p, o, none⟩ = some (.slice (some ⟨g, 0, none⟩) (m + 1) c) := by rw [cell_of_row w2 p o _ t (0, 0) hblk2]; exact Array.getElem?_setIfInBounds_self_of_lt h.at'
  have z4 := frozen_of_row w2 p o _ t hblk2
  have hnew3 := t3.heap hnew2 (by have := lt_of_heap h.blk; show ¬ w.heap.size = p; omega)
  have c0 := cell_of_row (w2.setCell ⟨p, o, none⟩ (.slice (some ⟨g, 0, none⟩) m c)) w.heap.size 0 _ 84 (0, 0) hnew3
  have c1 := cell_of_row (w2.setCell ⟨p, o, none⟩ (.slice (some ⟨g, 0, none⟩) m c)) w.heap.size 1 _ 84 (0, 0) hnew3
  have HW0 := hide hw0
  have HW2 := hide hw2
  have C0 := hide c0
  have C1 := hide c1
  clear h hrow hm hx T0 hgl hw0 hnew R0 B0 hr2 t2 R2 hblk2 hnew2 hblk3 t3 hall hrw hnew3 hw2 c0 c1
  obtain ⟨xb, xo, xc, xR, xn⟩ := x
  simp only at *
  generalize xR.length = xl at *
  go_enter Try.func90, Try.ntmps90
  go_upto_region 3 with (fail)
  rw [← HW0.out]
  go_upto_region 4 with (fail)
  rw [HW2.out]
  go_upto_region 5 with (fail)
  have c0 := C0.out
  have c1 := C1.out
  go_wp2_with fail
  go_ret
  exact ⟨rfl, FIN.out⟩
end Go.Proofs.Ytjnpendihdlgnaa

/-
  A heap's Push, Pop and Fix.
-/
namespace Go.Proofs.Ytjnpendihdlgnaa
open Go.RowKit
set_option maxRecDepth 100000
set_option maxHeartbeats 4000000
theorem hf_left {L : List Hd} {M : List Hd} {k : Nat} (h : k < L.length) : hf (L ++ M) k = hf L k := by unfold hf; rw [List.getElem?_append_left h]
theorem hpush_any (S : Nat → Prop) (p o t : Nat) (cs : Array Value) (v : Value) (L : List Hd) (x : Hd) (w : World) (h : HB S w p o t cs v L) (hh : Hp.Heap ltH (hf L) L.length) (hx : HdOk w x) (hxs : ∀ q, x.uses q → ¬ S q) (hlen : L.length < 1000000) :
    Calls Try.prog 58 #[.iface 82 (.pointer (some ⟨p, o, none⟩)), .iface 84 (.agg #[.slice (some ⟨x.b, x.off, none⟩) x.R.length x.c, .int .i64 (x.no : Nat)])] w fun e w' => ∃ v' L', (∃ u, e = .returned u) ∧ HB S w' p o t cs v' L' ∧ L'.Perm (L ++ [x]) ∧ Hp.Heap ltH (hf L') L'.length ∧ Moved p v v' w w' := by
  have H0 := hide h
  have HH := hide hh
  have HX := hide hx
  have HXS := hide hxs
  have HL := hide hlen
  clear h hh hx hxs hlen
  obtain ⟨y, hy⟩ : ∃ y, y = x := ⟨x, rfl⟩
  have HY := hide hy
  clear hy
  have HP := hide (push_any S p o t cs v L x w H0.out HX.out HXS.out HL.out)
  generalize hxl : x.R.length = xl at HP ⊢
  obtain ⟨xb, xo, xc, xR, xn⟩ := x
  simp only at *
  have HXL := hide hxl
  clear hxl
  go_enter Try.func58, Try.ntmps58
  go_wp2_with fail
  refine HP.out.mono ?_
  rintro e w1 ⟨g, c, ⟨u, rfl⟩, hB, hR, hgp, hsg, hM⟩
  have hcell := hB.cell
  have hm1 := method_len p o (L.length + 1) c _ w1 hcell
  have B1 := hide hB
  have R1 := hide hR
  have M1 := hide hM
  have HL1 := hide (show (L ++ [⟨xb, xo, xc, xR, xn⟩] : List Hd).length = L.length + 1 by simp)
  have U1 := hide (show Hp.HeapUp ltH (hf (L ++ [⟨xb, xo, xc, xR, xn⟩])) (L.length + 1) L.length from Hp.heap_end HH.out fun k hk => hf_left hk)
  have hll := HL.out
  have hli : (L.length : Int) < 1000000 := by omega
  clear hB hR hM hll
  generalize hq : (L ++ [⟨xb, xo, xc, xR, xn⟩] : List Hd) = L1 at B1 R1 M1 HL1 U1
  have HQ := hide hq
  clear hq
  generalize L.length = n at *
  go_wp2_with fail
  refine (len_any _ _ _ _).mono ?_
  rintro e w2 ⟨rfl, rfl⟩
  go_wp2_with fail
  refine (up_any S p o t g c (n + 1) n cs L1 w2 B1.out R1.out HL1.out.symm hgp hsg (by omega) U1.out).mono ?_
  rintro e w3 ⟨L2, ⟨u2, rfl⟩, hB3, hR3, hP3, hH3, hT3⟩
  have FIN := hide (show ∃ v' L', (∃ u, Ending.returned (.tuple #[]) = .returned u) ∧ HB S w3 p o t cs v' L' ∧ L'.Perm (L ++ [⟨xb, xo, xc, xR, xn⟩]) ∧ Hp.Heap ltH (hf L') L'.length ∧ Moved p v v' w w3 from ⟨_, L2, ⟨_, rfl⟩, hB3, by rw [HQ.out]; exact hP3, by rw [hP3.length_eq, HL1.out]; exact hH3, M1.out.trans (Moved.row hT3)⟩)
  clear hB3 hR3 hP3 hH3 hT3
  go_wp2_with fail
  go_end0
  exact FIN.out
theorem hpop_any (S : Nat → Prop) (p o t : Nat) (cs : Array Value) (v : Value) (L : List Hd) (w : World) (h : HB S w p o t cs v L) (hh : Hp.Heap ltH (hf L) L.length) (hne : L ≠ []) :
    Calls Try.prog 66 #[.iface 82 (.pointer (some ⟨p, o, none⟩))] w fun e w' => ∃ v' L', (∃ u, e = .returned u) ∧ HB S w' p o t cs v' L' ∧ (L' ++ [hf L 0]).Perm L ∧ Hp.Heap ltH (hf L') L'.length ∧ Moved p v v' w w' := by
  obtain ⟨g, c, rfl, hR, hgp, hsg⟩ := h.full hne
  obtain ⟨n, hn⟩ : ∃ n, L.length = n + 1 := by
    cases L with
    | nil => exact absurd rfl hne
    | cons a b => exact ⟨b.length, rfl⟩
  rw [hn] at h ⊢
  rw [hn] at hh
  have HN := hide hn
  have H0 := hide h
  have HH := hide hh
  have R0 := hide hR
  have hcell := h.cell
  have hlen : (n : Int) ≤ 1000000 := by have := h.len; omega
  have hm1 := method_len p o (n + 1) c _ w hcell
  have hm2 := method_swap p o (n + 1) c _ w hcell
  clear h hh hR hn hne
  go_enter Try.func66, Try.ntmps66
  go_wp2_with fail
  refine (len_any _ _ _ _).mono ?_
  rintro e w1 ⟨rfl, rfl⟩
  go_wp2_with fail
  have h0 := at_hf (L := L) (k := 0) (by have := HN.out; omega)
  have h1 := at_hf (L := L) (k := n) (by have := HN.out; omega)
  refine (swap_any g c (n + 1) 0 n L _ _ w1 R0.out HN.out.symm h0 h1).mono ?_
  rintro e w2 ⟨⟨u, rfl⟩, hR2, hT2⟩
  have hP2 := Hp.swapL_perm L 0 n _ _ h0 h1
  have B2 := hide (show HB S w2 p o t cs (.slice (some ⟨g, 0, none⟩) (n + 1) c) (Hp.swapL L 0 n (hf L 0) (hf L n)) by
    have := HB.turn (by rw [HN.out]; exact H0.out) hT2 hR2 hP2 hgp hsg
    rw [HN.out] at this
    exact this)
  have D2 := hide (show Hp.HeapDown ltH (hf (Hp.swapL L 0 n (hf L 0) (hf L n))) n 0 by
    rw [hf_swap L _ _ (by have := HN.out; omega) (by have := HN.out; omega)]
    exact Hp.heap_top (Hp.heap_less HH.out (by omega)) fun k k0 kn => Hp.swapF_o _ (by omega) (by omega))
  have E2 := hide (show (Hp.swapL L 0 n (hf L 0) (hf L n)).drop n = [hf L 0] by
    have hq : (Hp.swapL L 0 n (hf L 0) (hf L n)).length = n + 1 := by rw [Hp.swapL_length]; exact HN.out
    have hg : (Hp.swapL L 0 n (hf L 0) (hf L n))[n]? = some (hf L 0) := by
      rw [Hp.swapL_get L 0 n n _ _ h0 h1]
      by_cases e : n = 0
      · rw [if_pos e, h1, e]
      · rw [if_neg e, if_pos rfl, h0]
    obtain ⟨hlt, hge⟩ := List.getElem?_eq_some_iff.1 hg
    rw [List.drop_eq_getElem_cons hlt, hge, List.drop_eq_nil_of_le (by omega)])
  have HL2 := hide (show (Hp.swapL L 0 n (hf L 0) (hf L n)).length = n + 1 by rw [Hp.swapL_length]; exact HN.out)
  have R2 := hide hR2
  have T2 := hide hT2
  have P2 := hide hP2
  clear hR2 hT2 hP2 h0 h1
  generalize Hp.swapL L 0 n (hf L 0) (hf L n) = L2 at *
  go_wp2_with fail
  refine (down_any S p o t g c (n + 1) 0 n cs L2 w2 B2.out R2.out HL2.out.symm hgp hsg (by omega) (by omega) D2.out).mono ?_
  rintro e w3 ⟨L3, ⟨b, rfl⟩, hB3, hR3, hP3, hD3, hH3, hT3⟩
  obtain ⟨M, rfl⟩ : ∃ M, L3 = M ++ [hf L 0] := ⟨L3.take n, by rw [← E2.out, ← hD3, List.take_append_drop]⟩
  have hM : n = M.length := by
    have := hP3.length_eq
    rw [HL2.out, List.length_append] at this
    simp at this
    omega
  have B3 := hide hB3
  have R3 := hide hR3
  have P3 := hide (hP3.trans P2.out)
  have T3 := hide (T2.out.trans hT3)
  have HM := hide hM
  have H3 := hide (show Hp.Heap ltH (hf M) n from fun k k0 kn => by
    have := hH3 k k0 kn
    rw [hf_left (by omega), hf_left (by omega)] at this
    exact this)
  clear hB3 hR3 hP3 hT3 hH3 hD3 hM
  go_wp2_with fail
  refine (pop_any S p o t g c n cs M (hf L 0) w3 HM.out B3.out R3.out hgp hsg).mono ?_
  rintro e w4 ⟨rfl, hB4, hR4, hM4⟩
  have FIN := hide (show HB S w4 p o t cs (.slice (some ⟨g, 0, none⟩) n c) M ∧ (M ++ [hf L 0]).Perm L ∧ Hp.Heap ltH (hf M) M.length ∧ Moved p (.slice (some ⟨g, 0, none⟩) (n + 1) c) (.slice (some ⟨g, 0, none⟩) n c) w1 w4 from ⟨hB4, P3.out, by rw [← HM.out]; exact H3.out, (Moved.row T3.out).trans hM4⟩)
  clear hB4 hR4 hM4
  go_wp2_with fail
  go_ret
  exact ⟨_, M, ⟨_, rfl⟩, FIN.out⟩
theorem hfix_any (S : Nat → Prop) (p o t : Nat) (cs : Array Value) (v : Value) (L : List Hd) (w : World) (h : HB S w p o t cs v L) (hh : Hp.HeapDown ltH (hf L) L.length 0) (hne : L ≠ []) :
    Calls Try.prog 67 #[.iface 82 (.pointer (some ⟨p, o, none⟩)), .int .i64 0] w fun e w' => ∃ L', (∃ u, e = .returned u) ∧ HB S w' p o t cs v L' ∧ L'.Perm L ∧ Hp.Heap ltH (hf L') L'.length ∧ Moved p v v w w' := by
  obtain ⟨g, c, rfl, hR, hgp, hsg⟩ := h.full hne
  obtain ⟨n, hn⟩ : ∃ n, L.length = n + 1 := by
    cases L with
    | nil => exact absurd rfl hne
    | cons a b => exact ⟨b.length, rfl⟩
  rw [hn] at h ⊢
  rw [hn] at hh
  have HN := hide hn
  have H0 := hide h
  have HH := hide hh
  have R0 := hide hR
  have hcell := h.cell
  have hlen : (n : Int) ≤ 1000000 := by have := h.len; omega
  have hm1 := method_len p o (n + 1) c _ w hcell
  clear h hh hR hn hne
  go_enter Try.func67, Try.ntmps67
  go_wp2_with fail
  refine (len_any _ _ _ _).mono ?_
  rintro e w1 ⟨rfl, rfl⟩
  go_wp2_with fail
  refine (down_any S p o t g c (n + 1) 0 (n + 1) cs L w1 H0.out R0.out HN.out.symm hgp hsg (by omega) (by omega) HH.out).mono ?_
  rintro e w2 ⟨L2, ⟨b, rfl⟩, hB2, hR2, hP2, _, hH2, hT2⟩
  have B2 := hide hB2
  have R2 := hide hR2
  have P2 := hide hP2
  have H2 := hide hH2
  have T2 := hide hT2
  have HL2 := hide (show L2.length = n + 1 by rw [hP2.length_eq]; exact HN.out)
  clear hB2 hR2 hP2 hH2 hT2
  cases b with
  | true =>
    go_wp2_with fail
    go_end0
    exact ⟨L2, ⟨_, rfl⟩, B2.out, P2.out, by rw [HL2.out]; exact H2.out, Moved.row T2.out⟩
  | false =>
    go_wp2_with fail
    refine (up_any S p o t g c (n + 1) 0 cs L2 w2 B2.out R2.out HL2.out.symm hgp hsg (by omega) ⟨fun k k0 kn _ => H2.out k k0 kn, fun k _ _ _ h => by omega⟩).mono ?_
    rintro e w3 ⟨L3, ⟨u, rfl⟩, hB3, hR3, hP3, hH3, hT3⟩
    have B3 := hide hB3
    have P3 := hide hP3
    have H3 := hide hH3
    have T3 := hide hT3
    clear hB3 hR3 hP3 hH3 hT3
    go_wp2_with fail
    go_end0
    exact ⟨L3, ⟨_, rfl⟩, B3.out, P3.out.trans P2.out, by rw [P3.out.length_eq, HL2.out]; exact H3.out, Moved.row (T2.out.trans T3.out)⟩
end Go.Proofs.Ytjnpendihdlgnaa

/-
  The first of the heads, and going by it.
-/
namespace Go.Proofs.Ytjnpendihdlgnaa
open Go.RowKit
set_option maxRecDepth 100000
set_option maxHeartbeats 4000000
/-- A head that has gone by its first entry. -/
def adv (h : Hd) : Option Hd := match h.R with
  | _ :: y :: r => some ⟨h.b, h.off + 4, h.c - 1, y :: r, h.no⟩
  | _ => none
theorem hd_cells {w : World} {x : Hd} {y : Tow} {r : List Tow} (hx : HdOk w x) (hR : x.R = y :: r) :
    (w.cell? ⟨x.b, x.off, none⟩ = some (.slice y.ka y.e.key.length y.kc) ∧ w.cell? ⟨x.b, x.off + 1, none⟩ = some (.int .u64 (y.e.seq : Nat)) ∧ w.cell? ⟨x.b, x.off + 2, none⟩ = some (.int .i64 y.e.kind) ∧ w.cell? ⟨x.b, x.off + 3, none⟩ = some (.slice y.va y.e.val.length y.vc)) ∧ Bytes w (.slice y.ka y.e.key.length y.kc) y.e.key ∧ Bytes w (.slice y.va y.e.val.length y.vc) y.e.val := by
  obtain ⟨⟨b, off, e1, hc⟩, h1, h2⟩ := hx.ents 0 y (by rw [hR]; rfl)
  cases e1
  rw [Nat.zero_mul, Nat.add_zero] at hc
  exact ⟨⟨hc 0 _ rfl, hc 1 _ rfl, hc 2 _ rfl, hc 3 _ rfl⟩, h1, h2⟩
theorem HdOk.adv {w : World} {x : Hd} {y z : Tow} {r : List Tow} (hx : HdOk w x) (hR : x.R = y :: z :: r) : HdOk w ⟨x.b, x.off + 4, x.c - 1, z :: r, x.no⟩ := by
  have hc := hx.cap
  have hs := hx.size
  rw [hR] at hc hs
  simp only [List.length_cons] at hc hs
  refine ⟨by simp, fun k u hu => ?_, by simp only [List.length_cons]; omega, by simp only [List.length_cons]; omega, hx.no⟩
  obtain ⟨⟨b, off, e1, hcc⟩, h1, h2⟩ := hx.ents (k + 1) u (by rw [hR]; exact hu)
  cases e1
  refine ⟨⟨_, _, rfl, fun j v hv => ?_⟩, h1, h2⟩
  have := hcc j v hv
  rw [show x.off + (k + 1) * 4 + j = x.off + 4 + k * 4 + j by omega] at this
  exact this
theorem first_any (g c n : Nat) (L : List Hd) (x : Hd) (y : Tow) (r : List Tow) (w : World) (hrow : HRow w g c L) (hn : n = L.length) (h0 : L[0]? = some x) (hx : HdOk w x) (hR : x.R = y :: r) :
    Calls Try.prog 45 #[.slice (some ⟨g, 0, none⟩) n c] w fun e w' => e = .returned (.agg #[.slice y.ka y.e.key.length y.kc, .int .u64 (y.e.seq : Nat), .int .i64 y.e.kind, .slice y.va y.e.val.length y.vc]) ∧ Below w.heap.size w w' := by
  obtain ⟨a0, a1⟩ := hrow.at h0
  rw [Nat.zero_mul] at a0
  obtain ⟨⟨c0, c1, c2, c3⟩, _, _⟩ := hd_cells hx hR
  have i1 : (0 : Int) < n := by have := (List.getElem?_eq_some_iff.1 h0).1; omega
  have hl : x.R.length = r.length + 1 := by rw [hR]; rfl
  rw [hl] at a0
  clear hrow hn h0 hx hR a1 hl
  obtain ⟨xb, xo, xc, xR, xn⟩ := x
  simp only at *
  generalize r.length = rl at *
  generalize y.e.key.length = kn at *
  generalize y.e.val.length = vn at *
  have T0 := hide ((Turns.refl (fun _ => False) w).alloc (.cells #[.slice none 0 0, .int .u64 0, .int .i64 0, .slice none 0 0] 25))
  have a0' := T0.out.cell a0 (fun x => x)
  have c0' := T0.out.cell c0 (fun x => x)
  have c1' := T0.out.cell c1 (fun x => x)
  have c2' := T0.out.cell c2 (fun x => x)
  have c3' := T0.out.cell c3 (fun x => x)
  have B1 := hide ((Below.refl w.heap.size w).alloc (Nat.le_refl _) (.cells #[.slice y.ka kn y.kc, .int .u64 (y.e.seq : Nat), .int .i64 y.e.kind, .slice y.va vn y.vc] 25))
  go_enter Try.func45, Try.ntmps45
  go_wp2_with fail
  refine bodyPost_ret (v := .agg #[.slice y.ka kn y.kc, .int .u64 (y.e.seq : Nat), .int .i64 y.e.kind, .slice y.va vn y.vc]) ?_ rfl ?_
  · exact results_cell_row Try.results45 _ _ _ _ _ _ _ rfl (heap_alloc_new w _) Try.underlying25 rfl info29
  · exact ⟨rfl, B1.out⟩
theorem advance_any (S : Nat → Prop) (p o t : Nat) (cs : Array Value) (v : Value) (L : List Hd) (x : Hd) (w : World) (h : HB S w p o t cs v (x :: L)) (hh : Hp.Heap ltH (hf (x :: L)) (L.length + 1)) :
    Calls Try.prog 60 #[.pointer (some ⟨p, o, none⟩)] w fun e w' => ∃ v' L', (∃ u, e = .returned u) ∧ HB S w' p o t cs v' L' ∧ L'.Perm ((adv x).toList ++ L) ∧ Hp.Heap ltH (hf L') L'.length ∧ Moved p v v' w w' := by
  obtain ⟨g, c, rfl, hR, hgp, hsg⟩ := h.full (by simp)
  have hcell := h.cell
  have hx := h.each x (by simp)
  obtain ⟨a0, a1⟩ := hR.at (i := 0) (x := x) rfl
  rw [Nat.zero_mul] at a0 a1
  have z0 := hR.frozen 0
  have hxc := hx.1.cap
  have hxs := hx.1.size
  have i1 : (0 : Int) < ((x :: L).length : Nat) := by simp only [List.length_cons]; omega
  have H0 := hide h
  have HH := hide hh
  have R0 := hide hR
  have X0 := hide hx
  obtain ⟨y, r, hxr⟩ : ∃ y r, x.R = y :: r := by
    have := hx.1.ne
    cases e : x.R with
    | nil => exact absurd e this
    | cons y r => exact ⟨y, r, rfl⟩
  have HXR := hide hxr
  clear h hh hR hx
  cases r with
  | nil =>
    rw [hxr] at a0 hxc hxs
    have HP := hide (hpop_any S p o t cs _ (x :: L) w H0.out HH.out (by simp))
    generalize hn : (x :: L).length = n at *
    have HN := hide hn
    clear hn hxr
    go_enter Try.func60, Try.ntmps60
    go_wp2_with fail
    refine HP.out.mono ?_
    rintro e w1 ⟨v', L', ⟨u, rfl⟩, hB, hP, hH, hM⟩
    have FIN := hide (show HB S w1 p o t cs v' L' ∧ L'.Perm ((adv x).toList ++ L) ∧ Hp.Heap ltH (hf L') L'.length ∧ Moved p (.slice (some ⟨g, 0, none⟩) n c) v' w w1 by
      refine ⟨hB, ?_, hH, hM⟩
      have e1 : adv x = none := by unfold adv; rw [HXR.out]
      rw [e1]
      have h1 : (L' ++ [x]).Perm (x :: L) := hP
      exact (List.perm_cons x).1 ((List.perm_append_comm (l₁ := [x]) (l₂ := L')).trans h1))
    clear hB hP hH hM
    go_wp2_with fail
    refine bodyPost_ret (results_none rfl _ _ _) rfl ?_
    exact ⟨v', L', ⟨_, rfl⟩, FIN.out⟩
  | cons z r =>
    rw [hxr] at a0 hxc hxs
    simp only [List.length_cons] at hxc hxs
    have hb1 : ∀ q, (⟨x.b, x.off + 4, x.c - 1, z :: r, x.no⟩ : Hd).uses q → x.uses q := fun q hq => by
      rcases hq with e | ⟨t, ht, hb⟩
      · exact .inl e
      · exact .inr ⟨t, by rw [HXR.out]; exact List.mem_cons_of_mem _ ht, hb⟩
    have ht : Turns (fun k => k = g) w (w.setCell ⟨g, 0, none⟩ (.slice (some ⟨x.b, x.off + 4, none⟩) (r.length + 1) (x.c - 1))) := turns_cell (Turns.refl _ _) _ _
    have hcs : hdCells (⟨x.b, x.off + 4, x.c - 1, z :: r, x.no⟩ :: L) = (hdCells (x :: L)).set 0 (.slice (some ⟨x.b, x.off + 4, none⟩) (r.length + 1) (x.c - 1)) := rfl
    have hrow1 : HRow (w.setCell ⟨g, 0, none⟩ (.slice (some ⟨x.b, x.off + 4, none⟩) (r.length + 1) (x.c - 1))) g c (⟨x.b, x.off + 4, x.c - 1, z :: r, x.no⟩ :: L) := ⟨R0.out.1, by rw [hcs]; exact R0.out.2.set _ _⟩
    have hB1 : HB S (w.setCell ⟨g, 0, none⟩ (.slice (some ⟨x.b, x.off + 4, none⟩) (r.length + 1) (x.c - 1))) p o t cs (.slice (some ⟨g, 0, none⟩) (x :: L).length c) (⟨x.b, x.off + 4, x.c - 1, z :: r, x.no⟩ :: L) := by
      refine ⟨ht.heap H0.out.blk (Ne.symm hgp), H0.out.at', H0.out.sp, fun k hk => H0.out.up k (Nat.le_trans ht.size hk), .inr ⟨g, c, rfl, hrow1, hgp, hsg⟩, fun u hu => ?_, H0.out.len⟩
      rcases List.mem_cons.1 hu with rfl | hu
      · exact ⟨(X0.out.1.adv HXR.out).keep ht fun q hq e => X0.out.2 q (hb1 q hq) (e ▸ hsg), fun q hq => X0.out.2 q (hb1 q hq)⟩
      · have := H0.out.each u (List.mem_cons_of_mem _ hu)
        exact ⟨this.1.keep ht fun q hq e => this.2 q hq (e ▸ hsg), this.2⟩
    have HP := hide (hfix_any S p o t cs _ _ _ hB1 (Hp.heap_top (f := hf (x :: L)) (by exact HH.out) (fun k k0 kn => by
      cases k with
      | zero => omega
      | succ k => rfl)) (by simp))
    have M1 := hide (Moved.row (p := p) (n := (x :: L).length) (c := c) (n' := (x :: L).length) (c' := c) ht)
    clear hb1 ht hcs hrow1 hB1
    have hl : (z :: r).length = r.length + 1 := rfl
    have hxc1 : (1 : Int) ≤ (x.c : Int) := by omega
    have hxc2 : (r.length : Int) + 1 + 1 ≤ (x.c : Int) := by omega
    have hsub : (((x.c : Int) - 1).toNat) = x.c - 1 := by omega
    have HSUB := hide hsub
    simp only [List.length_cons] at a0
    generalize hn : (x :: L).length = n at *
    have HN := hide hn
    have rl : (r.length : Int) ≤ 1000000 := by omega
    clear hn hxr hl hsub
    go_enter Try.func60, Try.ntmps60
    go_upto_region 4 with (fail)
    go_wp2_with fail
    refine HP.out.mono ?_
    rintro e w1 ⟨L', ⟨u, rfl⟩, hB, hP, hH, hM⟩
    have FIN := hide (show HB S w1 p o t cs (.slice (some ⟨g, 0, none⟩) n c) L' ∧ L'.Perm ((adv x).toList ++ L) ∧ Hp.Heap ltH (hf L') L'.length ∧ Moved p (.slice (some ⟨g, 0, none⟩) n c) (.slice (some ⟨g, 0, none⟩) n c) w w1 by
      refine ⟨hB, ?_, hH, M1.out.trans hM⟩
      have e1 : adv x = some ⟨x.b, x.off + 4, x.c - 1, z :: r, x.no⟩ := by unfold adv; rw [HXR.out]
      rw [e1]
      exact hP)
    clear hB hP hH hM
    go_wp2_with fail
    go_end0
    exact ⟨_, L', ⟨_, rfl⟩, FIN.out⟩
end Go.Proofs.Ytjnpendihdlgnaa
