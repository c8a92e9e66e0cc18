import Derived.Test.YtefjljdgdoklmaaM04
/-
  The first changes become part of the synced directory, and the others are forgotten.
-/
namespace Go.Proofs.Ytefjljdgdoklmaa
open Go.RowKit Go.Maps

theorem chCells_at (l : List Chg) (k : Nat) (c : Chg) (h : l[k]? = some c) : (chCells l)[k * 3]? = some (.string c.went) ∧ (chCells l)[k * 3 + 1]? = some (.string c.became) ∧ (chCells l)[k * 3 + 2]? = some (ptrOf c.file) := by
  induction l generalizing k with
  | nil => simp at h
  | cons q r ih =>
    cases k with
    | zero =>
      obtain rfl : q = c := by simpa using h
      exact ⟨rfl, rfl, rfl⟩
    | succ k =>
      have := ih k (by simpa using h)
      rw [show (k + 1) * 3 = k * 3 + 3 by omega, show k * 3 + 3 + 1 = k * 3 + 1 + 3 by omega, show k * 3 + 3 + 2 = k * 3 + 2 + 3 by omega]
      exact this

set_option maxRecDepth 100000 in
set_option maxHeartbeats 4000000 in
theorem settle_some (f bs ns k : Nat) (S : DataW Unit) (l : List Chg) (limit used lost ops fuse fault fail : Int) (on : Bool) (nm : Value) (g c n : Nat) (w : World)
    (h : w.heap[f]? = some (.cells (fsCells limit nm (.map (some bs)) (.slice (some ⟨g, 0, none⟩) n c) used lost on ops fuse fault fail) 57 (0, 0))) (hd : Dir w bs ns S) (hl : Chs w (.slice (some ⟨g, 0, none⟩) n c) l) (hk : k ≤ l.length) (hn : ns + k ≤ 1000000000) (hlen : l.length ≤ 1000000000)
    (hnm : ∀ x ∈ l, x.went.size ≤ maxLen ∧ x.became.size ≤ maxLen) :
    Calls Try.prog 42 #[.pointer (some ⟨f, 0, none⟩), .int .i64 (k : Nat)] w fun e w' => (∃ v, e = .returned v) ∧ w'.heap[f]? = some (.cells (fsCells limit nm (.map (some bs)) (.slice none 0 0) used lost on ops fuse fault fail) 57 (0, 0)) ∧ Dir w' bs (ns + k) ((l.take k).foldl applyD S) ∧ Turns (fun j => j = f ∨ j = bs) w w' := by
  have hfb : f ≠ bs := hd.ne_cells h
  obtain ⟨cs, hrow⟩ := hl.row ⟨n, c, rfl⟩
  have hgb : g ≠ bs := hd.ne_cells hrow
  have hgf : g ≠ f := fun e => by rw [e, h] at hrow; cases hrow
  obtain ⟨hn1, hnc, hcells⟩ : n = l.length ∧ n ≤ c ∧ ∀ (j : Nat) (x : Chg), l[j]? = some x → ∀ w' : World, w'.heap[g]? = w.heap[g]? → w'.cell? ⟨g, j * 3, none⟩ = some (.string x.went) ∧ w'.cell? ⟨g, j * 3 + 1, none⟩ = some (.string x.became) ∧ w'.cell? ⟨g, j * 3 + 2, none⟩ = some (ptrOf x.file) := by
    rcases hl with ⟨_, e⟩ | ⟨g', c', n', e, h2, h3, h4, cs', h5, h6, h7⟩
    · cases e
    · cases e
      refine ⟨h2, h4, fun j x hx w' hw' => ?_⟩
      have hj : j < l.length := by
        rcases Nat.lt_or_ge j l.length with h | h
        · exact h
        · rw [List.getElem?_eq_none h] at hx; cases hx
      obtain ⟨a0, a1, a2⟩ := chCells_at l j x hx
      have hlc := chCells_length l
      rw [h5] at hw'
      refine ⟨?_, ?_, ?_⟩
      · rw [cell_of_row w' g _ cs' 72 (0, 0) hw', h7 _ (by omega), a0]
      · rw [cell_of_row w' g _ cs' 72 (0, 0) hw', h7 _ (by omega), a1]
      · rw [cell_of_row w' g _ cs' 72 (0, 0) hw', h7 _ (by omega), a2]
  have c3 : w.cell? ⟨f, 3, none⟩ = some (.slice (some ⟨g, 0, none⟩) n c) := cell_of_row w f 3 _ 57 (0, 0) h
  have H := hide h
  have HD := hide hd
  have HCE := hide hcells
  have HNM := hide hnm
  have hgw := lt_of_heap hrow
  clear h hd hl hcells hnm hrow
  have kc : (k : Int) ≤ (c : Int) := by omega
  go_enter Try.func42, Try.ntmps42
  go_wp2_with fail
  go_loopw [13] (fun iv wr => ∃ i : Nat, iv = .int .i64 (i : Nat) ∧ i ≤ k ∧ Dir wr bs (ns + i) ((l.take i).foldl applyD S) ∧ Turns (fun j => j = bs) w wr) (fun iv _ => k - (intOf iv).toNat)
  case atStart => exact ⟨0, rfl, Nat.zero_le _, HD.out, Turns.refl _ _⟩
  case round =>
    obtain ⟨i, rfl, hi, hdi, ht⟩ := hrel
    have HDI := hide hdi
    have HT := hide ht
    clear hdi ht
    by_cases hik : i < k
    · have hil : i < l.length := by omega
      obtain ⟨x, hx⟩ : ∃ x, l[i]? = some x := ⟨l[i], List.getElem?_eq_getElem hil⟩
      have hxm : x ∈ l := List.mem_of_getElem? hx
      obtain ⟨a0, a1, a2⟩ := HCE.out i x hx wr (HT.out.block g hgw hgb)
      have hsn : (l.take (i + 1)).foldl applyD S = applyD ((l.take i).foldl applyD S) x := by
        rw [List.take_add_one, hx]
        simp
      have HSN := hide hsn
      obtain ⟨m1, m2⟩ := HNM.out x hxm
      obtain ⟨went, became, file⟩ := x
      simp only at a0 a1 a2 m1 m2
      have i1 : (i : Int) < (k : Int) := by omega
      have i0 : (0 : Int) ≤ (i : Int) := by omega
      clear hsn hx
      rcases file with _ | q
      · simp only [ptrOf] at a2
        go_wp2_with fail
        have TA : Turns (fun _ => False) wr (wr.alloc (.cells #[.string went, .string became, .pointer none] 72)) := (Turns.refl _ wr).alloc _
        have hnew := heap_alloc_new wr (.cells #[.string went, .string became, .pointer none] 72)
        have HFA := hide (TA.heap (HT.out.heap H.out hfb) (fun x => x))
        have HDA := hide (HDI.out.keep TA (fun x => x))
        have hgb' : wr.heap.size ≠ bs := fun e => by have := HDI.out.lt; omega
        have HTA := hide (HT.out.trans (TA.mono fun _ _ x => x.elim))
        clear TA
        generalize hg0 : wr.heap.size = g0 at *
        generalize wr.alloc (.cells #[.string went, .string became, .pointer none] 72) = wa at *
        have d2 : wa.cell? ⟨f, 2, none⟩ = some (.map (some bs)) := cell_of_row _ _ 2 _ 57 (0, 0) HFA.out
        have b0 : wa.cell? ⟨g0, 0, none⟩ = some (.string went) := cell_of_row _ _ 0 _ 72 (0, 0) hnew
        have b1 : wa.cell? ⟨g0, 1, none⟩ = some (.string became) := cell_of_row _ _ 1 _ 72 (0, 0) hnew
        have b2 : wa.cell? ⟨g0, 2, none⟩ = some (.pointer none) := cell_of_row _ _ 2 _ 72 (0, 0) hnew
        clear hnew a0 a1 a2
        go_region_held (fun w' => w'.cell? ⟨f, 2, none⟩ = some (.map (some bs)) ∧ w'.cell? ⟨g0, 0, none⟩ = some (.string went) ∧ w'.cell? ⟨g0, 1, none⟩ = some (.string became) ∧ w'.cell? ⟨g0, 2, none⟩ = some (.pointer none)) (first | (with_reducible exact ⟨e1, e2, e3, e4⟩) | (simp only [World.cell?_drew]; with_reducible exact ⟨d2, b0, b1, b2⟩)) (first
          | (go_at_call 72; refine (apply_any bs (ns + i) _ ⟨went, became, none⟩ _ (World.ownsMap.drew HDA.out) (by unfold maxLen; omega) m1 m2).mono ?_; rintro e w1 ⟨⟨v, rfl⟩, hd1, t1⟩; have e1 := t1.cell (a := wa.drew) d2 hfb; have e2 := t1.cell (a := wa.drew) b0 hgb'; have e3 := t1.cell (a := wa.drew) b1 hgb'; have e4 := t1.cell (a := wa.drew) b2 hgb'; have HD1 := hide hd1; have HT1 := hide t1; clear hd1 t1))
        go_wp2_with fail
        go_roundw
        case rel => exact ⟨i + 1, by go_num, by omega, by rw [HSN.out]; exact HD1.out, HTA.out.drew.trans HT1.out⟩
        case measure => simp [intOf]; omega
      · simp only [ptrOf] at a2
        go_wp2_with fail
        have TA : Turns (fun _ => False) wr (wr.alloc (.cells #[.string went, .string became, .pointer (some ⟨q, 0, none⟩)] 72)) := (Turns.refl _ wr).alloc _
        have hnew := heap_alloc_new wr (.cells #[.string went, .string became, .pointer (some ⟨q, 0, none⟩)] 72)
        have HFA := hide (TA.heap (HT.out.heap H.out hfb) (fun x => x))
        have HDA := hide (HDI.out.keep TA (fun x => x))
        have hgb' : wr.heap.size ≠ bs := fun e => by have := HDI.out.lt; omega
        have HTA := hide (HT.out.trans (TA.mono fun _ _ x => x.elim))
        clear TA
        generalize hg0 : wr.heap.size = g0 at *
        generalize wr.alloc (.cells #[.string went, .string became, .pointer (some ⟨q, 0, none⟩)] 72) = wa at *
        have d2 : wa.cell? ⟨f, 2, none⟩ = some (.map (some bs)) := cell_of_row _ _ 2 _ 57 (0, 0) HFA.out
        have b0 : wa.cell? ⟨g0, 0, none⟩ = some (.string went) := cell_of_row _ _ 0 _ 72 (0, 0) hnew
        have b1 : wa.cell? ⟨g0, 1, none⟩ = some (.string became) := cell_of_row _ _ 1 _ 72 (0, 0) hnew
        have b2 : wa.cell? ⟨g0, 2, none⟩ = some (.pointer (some ⟨q, 0, none⟩)) := cell_of_row _ _ 2 _ 72 (0, 0) hnew
        clear hnew a0 a1 a2
        go_region_held (fun w' => w'.cell? ⟨f, 2, none⟩ = some (.map (some bs)) ∧ w'.cell? ⟨g0, 0, none⟩ = some (.string went) ∧ w'.cell? ⟨g0, 1, none⟩ = some (.string became) ∧ w'.cell? ⟨g0, 2, none⟩ = some (.pointer (some ⟨q, 0, none⟩))) (first | (with_reducible exact ⟨e1, e2, e3, e4⟩) | (simp only [World.cell?_drew]; with_reducible exact ⟨d2, b0, b1, b2⟩)) (first
          | (go_at_call 72; refine (apply_any bs (ns + i) _ ⟨went, became, some q⟩ _ (World.ownsMap.drew HDA.out) (by unfold maxLen; omega) m1 m2).mono ?_; rintro e w1 ⟨⟨v, rfl⟩, hd1, t1⟩; have e1 := t1.cell (a := wa.drew) d2 hfb; have e2 := t1.cell (a := wa.drew) b0 hgb'; have e3 := t1.cell (a := wa.drew) b1 hgb'; have e4 := t1.cell (a := wa.drew) b2 hgb'; have HD1 := hide hd1; have HT1 := hide t1; clear hd1 t1))
        go_wp2_with fail
        go_roundw
        case rel => exact ⟨i + 1, by go_num, by omega, by rw [HSN.out]; exact HD1.out, HTA.out.drew.trans HT1.out⟩
        case measure => simp [intOf]; omega
    · obtain rfl : i = k := by omega
      have HF := hide (HT.out.heap H.out hfb)
      have y3 : wr.cell? ⟨f, 3, none⟩ = some (.slice (some ⟨g, 0, none⟩) n c) := cell_of_row wr f 3 _ 57 (0, 0) HF.out
      have z3 : wr.frozen? ⟨f, 3, none⟩ = false := frozen_of_row wr f 3 _ 57 HF.out
      go_wp2_with fail
      go_end0
      exact ⟨⟨_, rfl⟩, heap_setCell_same wr f 3 _ 57 _ HF.out, HDI.out.setCell (by exact hfb.symm) _, (HT.out.mono fun j _ e => .inr e).setCell (.inl rfl) _⟩

set_option maxRecDepth 100000 in
set_option maxHeartbeats 1000000 in
theorem settle_none (f : Nat) (limit used lost ops fuse fault fail : Int) (on : Bool) (nm sy : Value) (w : World)
    (h : w.heap[f]? = some (.cells (fsCells limit nm sy (.slice none 0 0) used lost on ops fuse fault fail) 57 (0, 0))) :
    Calls Try.prog 42 #[.pointer (some ⟨f, 0, none⟩), .int .i64 0] w fun e w' => (∃ v, e = .returned v) ∧ w'.heap[f]? = some (.cells (fsCells limit nm sy (.slice none 0 0) used lost on ops fuse fault fail) 57 (0, 0)) ∧ Turns (fun j => j = f) w w' := by
  have c3 : w.cell? ⟨f, 3, none⟩ = some (.slice none 0 0) := cell_of_row w f 3 _ 57 (0, 0) h
  have z3 : w.frozen? ⟨f, 3, none⟩ = false := frozen_of_row w f 3 _ 57 h
  have H := hide h
  clear h
  go_enter Try.func42, Try.ntmps42
  go_wp2_with fail
  go_loopw [13] (fun iv wr => iv = .int .i64 0 ∧ wr = w) (fun _ _ => 0)
  case atStart => exact ⟨rfl, rfl⟩
  case round =>
    obtain ⟨rfl, rfl⟩ := hrel
    go_wp2_with fail
    go_end0
    exact ⟨⟨_, rfl⟩, heap_setCell_same wr f 3 _ 57 _ H.out, (Turns.refl (fun j => j = f) wr).setCell (p := ⟨f, 3, none⟩) rfl _⟩

theorem settle_any (f bs ns k : Nat) (S : DataW Unit) (l : List Chg) (limit used lost ops fuse fault fail : Int) (on : Bool) (nm ch : Value) (w : World)
    (h : w.heap[f]? = some (.cells (fsCells limit nm (.map (some bs)) ch used lost on ops fuse fault fail) 57 (0, 0))) (hd : Dir w bs ns S) (hl : Chs w ch l) (hk : k ≤ l.length) (hn : ns + k ≤ 1000000000) (hlen : l.length ≤ 1000000000)
    (hnm : ∀ x ∈ l, x.went.size ≤ maxLen ∧ x.became.size ≤ maxLen) :
    Calls Try.prog 42 #[.pointer (some ⟨f, 0, none⟩), .int .i64 (k : Nat)] w fun e w' => (∃ v, e = .returned v) ∧ w'.heap[f]? = some (.cells (fsCells limit nm (.map (some bs)) (.slice none 0 0) used lost on ops fuse fault fail) 57 (0, 0)) ∧ Dir w' bs (ns + k) ((l.take k).foldl applyD S) ∧ Turns (fun j => j = f ∨ j = bs) w w' := by
  rcases id hl with ⟨rfl, rfl⟩ | ⟨g, c, n, rfl, _⟩
  · obtain rfl : k = 0 := by simpa using hk
    refine (settle_none f limit used lost ops fuse fault fail on nm _ w h).mono fun e w' ⟨he, h1, h2⟩ => ⟨he, h1, ?_, h2.mono fun _ _ e => .inl e⟩
    exact hd.keep h2 fun e => hd.ne_cells h e.symm
  · exact settle_some f bs ns k S l limit used lost ops fuse fault fail on nm g c n w h hd hl hk hn hlen hnm

theorem wrapI (z : Int) (h1 : -9223372036854775808 ≤ z) (h2 : z ≤ 9223372036854775807) : IntKind.i64.wrap z = z := by
  simp [IntKind.wrap, IntKind.bits, IntKind.signed]
  omega

theorem Chs.len {w : World} {v : Value} {l : List Chg} (h : Chs w v l) : ∃ a c, v = .slice a l.length c := by
  rcases h with ⟨rfl, rfl⟩ | ⟨g, c, n, rfl, rfl, _⟩
  · exact ⟨_, _, rfl⟩
  · exact ⟨_, _, rfl⟩

set_option maxRecDepth 100000 in
set_option maxHeartbeats 4000000 in
theorem syncdir1_any (f bs ns pf : Nat) (S : DataW Unit) (l : List Chg) (limit used lost ops fuse fault fail : Int) (on : Bool) (nm ch : Value) (w : World) (h0 : w.cell? ⟨pf, 0, none⟩ = some (.pointer (some ⟨f, 0, none⟩)))
    (h : w.heap[f]? = some (.cells (fsCells limit nm (.map (some bs)) ch used lost on ops fuse fault fail) 57 (0, 0))) (hd : Dir w bs ns S) (hl : Chs w ch l) (hn : ns + l.length ≤ 1000000000) (hnm : ∀ x ∈ l, x.went.size ≤ maxLen ∧ x.became.size ≤ maxLen) (hpf : pf ≠ f) (hpb : pf ≠ bs) (hu : 0 ≤ lost ∧ lost ≤ used ∧ used ≤ 1073741824) :
    Calls Try.prog 47 #[.pointer (some ⟨pf, 0, none⟩)] w fun e w' => e = .returned (.int .i64 0) ∧ w'.heap[f]? = some (.cells (fsCells limit nm (.map (some bs)) (.slice none 0 0) (used - lost) 0 on ops fuse fault fail) 57 (0, 0)) ∧ Dir w' bs (ns + l.length) (l.foldl applyD S) ∧ Turns (fun j => j = f ∨ j = bs) w w' := by
  have hfb : f ≠ bs := hd.ne_cells h
  obtain ⟨a, c, rfl⟩ := hl.len
  have c3 : w.cell? ⟨f, 3, none⟩ = some (.slice a l.length c) := cell_of_row w f 3 _ 57 (0, 0) h
  have H := hide h
  have HD := hide hd
  have HL := hide hl
  have HNM := hide hnm
  clear h hd hl hnm
  go_enter Try.func47, Try.ntmps47
  go_wp2_with fail
  go_cut [8] from 2 to 8 (fun _ wx => wx.heap[f]? = some (.cells (fsCells limit nm (.map (some bs)) (.slice none 0 0) used lost on ops fuse fault fail) 57 (0, 0)) ∧ Dir wx bs (ns + l.length) (l.foldl applyD S) ∧ Turns (fun j => j = f ∨ j = bs) w wx)
  case first =>
    go_region_with (first
      | (go_at_call 42; refine (settle_any f bs ns l.length S l limit used lost ops fuse fault fail on nm (.slice a l.length c) w.drew H.out (World.ownsMap.drew HD.out) HL.out (Nat.le_refl _) hn (by omega) HNM.out).mono ?_; rintro e w1 ⟨⟨v, rfl⟩, k1, k2, k3⟩; have K1 := hide k1; have K2 := hide k2; have K3 := hide k3; clear k1 k2 k3))
    all_goals go_wp2_with fail
    all_goals go_meet
    all_goals exact ⟨K1.out, by have := K2.out; rwa [List.take_length] at this, (Turns.refl _ w).drew.trans K3.out⟩
  case rest =>
    obtain ⟨k1, k2, k3⟩ := hcut
    have p0 : wc.cell? ⟨pf, 0, none⟩ = some (.pointer (some ⟨f, 0, none⟩)) := k3.cell h0 (fun x => x.elim hpf hpb)
    have K1 := hide k1
    have K2 := hide k2
    have K3 := hide k3
    have c4 : wc.cell? ⟨f, 4, none⟩ = some (.int .i64 used) := cell_of_row wc f 4 _ 57 (0, 0) k1
    have c5 : wc.cell? ⟨f, 5, none⟩ = some (.int .i64 lost) := cell_of_row wc f 5 _ 57 (0, 0) k1
    have z4 : wc.frozen? ⟨f, 4, none⟩ = false := frozen_of_row wc f 4 _ 57 k1
    clear k1 k2 k3
    go_wp2_with fail
    go_cut [17] from 9 to 19 (fun _ wx => wx = (wc.setCell ⟨f, 4, none⟩ (.int .i64 (used - lost))).drew)
    case first =>
      go_region_with (fail)
      all_goals go_wp2_with fail
      all_goals go_meet
      all_goals rw [wrapI _ (by omega) (by omega)]
    case rest =>
      subst hcut
      have t4 : Tick wc (wc.setCell ⟨f, 4, none⟩ (.int .i64 (used - lost))).drew f 57 (fsCells limit nm (.map (some bs)) (.slice none 0 0) (used - lost) lost on ops fuse fault fail) := ((Tick.refl K1.out).set 4 (.int .i64 (used - lost))).drew
      have T4 := hide t4
      clear t4 c4 c5 z4
      generalize (wc.setCell ⟨f, 4, none⟩ (.int .i64 (used - lost))).drew = wd at *
      have p1 : wd.cell? ⟨pf, 0, none⟩ = some (.pointer (some ⟨f, 0, none⟩)) := (Turns.of_tick T4.out).cell p0 hpf
      have c5 : wd.cell? ⟨f, 5, none⟩ = some (.int .i64 lost) := T4.out.cell 5
      have z5 := T4.out.frozen 5
      go_wp2_with fail
      go_ret
      have T5 := T4.out.set 5 (.int .i64 0)
      have hT := Turns.of_tick T5
      exact ⟨rfl, T5.1, K2.out.keep hT (fun e => hfb e.symm), K3.out.trans (hT.mono fun _ _ e => .inl e)⟩
end Go.Proofs.Ytefjljdgdoklmaa

/-
  What is done to the file of a name, and SyncDir, through the guard.
-/
namespace Go.Proofs.Ytefjljdgdoklmaa
open Go.RowKit Go.Maps

theorem makeF : ∀ (fn : Fn) (first cap : Array Value) (w : World), (Instr.makeFunc fn first cap).run Try.prog w = .ok (.func fn first cap) w := fun _ _ _ _ => rfl
theorem enters47 (caps : Array Value) (w : World) : (callFunc 47 caps).run Try.prog w = .ok (.enter 47 caps) w := by kernel_rfl
theorem enters73 (caps : Array Value) (w : World) : (callFunc 73 caps).run Try.prog w = .ok (.enter 73 caps) w := by kernel_rfl

set_option maxRecDepth 100000 in
set_option maxHeartbeats 1000000 in
theorem syncdir_via (p : Option Addr) (w : World) (R : Ending → World → Prop)
    (HR : ∀ w1, Turns (fun _ => False) w w1 → w1.cell? ⟨w.heap.size, 0, none⟩ = some (.pointer p) → Calls Try.prog 36 #[.pointer p, .bool true, .func (.func 47) #[] #[.pointer (some ⟨w.heap.size, 0, none⟩)]] w1 fun e w' => ∃ z : Int, e = .returned (.int .i64 z) ∧ R (.returned (.int .i64 z)) w') :
    Calls Try.prog 13 #[.pointer p] w R := by
  have hmf := makeF
  have HRR := hide HR
  have hT : Turns (fun _ => False) w (w.alloc (.cells #[.pointer p] 22)) := (Turns.refl _ w).alloc _
  have x0 : (w.alloc (.cells #[.pointer p] 22)).cell? ⟨w.heap.size, 0, none⟩ = some (.pointer p) := cell_of_row _ _ 0 _ 22 (0, 0) (heap_alloc_new w _)
  have HT := hide hT
  clear HR hT
  go_enter Try.func13, Try.ntmps13
  go_wp2_with fail
  refine (HRR.out _ HT.out x0).mono ?_
  rintro e w2 ⟨z, rfl, hz⟩
  have HZ := hide hz
  clear hz
  go_wp2_with fail
  exact HZ.out

set_option maxRecDepth 100000 in
set_option maxHeartbeats 1000000 in
/-- onFile answers a closure over three variables of its own. -/
theorem onFile_any (p : Option Addr) (name : ByteArray) (M : Nat) (caps : Array Value) (w : World) :
    Calls Try.prog 39 #[.pointer p, .string name, .func (.func M) #[] caps] w fun e w' => e = .returned (.func (.func 73) #[] #[.pointer (some ⟨w.heap.size, 0, none⟩), .pointer (some ⟨w.heap.size + 1, 0, none⟩), .pointer (some ⟨w.heap.size + 2, 0, none⟩)]) ∧
      w'.cell? ⟨w.heap.size, 0, none⟩ = some (.pointer p) ∧ w'.cell? ⟨w.heap.size + 1, 0, none⟩ = some (.string name) ∧ w'.cell? ⟨w.heap.size + 2, 0, none⟩ = some (.func (.func M) #[] caps) ∧ Turns (fun _ => False) w w' := by
  have hmf := makeF
  have hT : Turns (fun _ => False) w (((w.alloc (.cells #[.pointer p] 22)).alloc (.cells #[.string name] 9)).alloc (.cells #[.func (.func M) #[] caps] 74)) := (((Turns.refl _ w).alloc _).alloc _).alloc _
  have x0 : (((w.alloc (.cells #[.pointer p] 22)).alloc (.cells #[.string name] 9)).alloc (.cells #[.func (.func M) #[] caps] 74)).cell? ⟨w.heap.size, 0, none⟩ = some (.pointer p) := cell_of_row _ _ 0 _ 22 (0, 0) ((heap_alloc_old _ _ (by simp; omega)).trans ((heap_alloc_old _ _ (by simp)).trans (heap_alloc_new w _)))
  have x1 : (((w.alloc (.cells #[.pointer p] 22)).alloc (.cells #[.string name] 9)).alloc (.cells #[.func (.func M) #[] caps] 74)).cell? ⟨w.heap.size + 1, 0, none⟩ = some (.string name) := cell_of_row _ _ 0 _ 9 (0, 0) ((heap_alloc_old _ _ (by simp)).trans (heap_alloc2_new w _ _))
  have x2 : (((w.alloc (.cells #[.pointer p] 22)).alloc (.cells #[.string name] 9)).alloc (.cells #[.func (.func M) #[] caps] 74)).cell? ⟨w.heap.size + 2, 0, none⟩ = some (.func (.func M) #[] caps) := by
    have := heap_alloc_new ((w.alloc (.cells #[.pointer p] 22)).alloc (.cells #[.string name] 9)) (.cells #[.func (.func M) #[] caps] 74)
    rw [show ((w.alloc (.cells #[.pointer p] 22)).alloc (.cells #[.string name] 9)).heap.size = w.heap.size + 2 by simp] at this
    exact cell_of_row _ _ 0 _ 74 (0, 0) this
  have FIN := hide (And.intro x0 (And.intro x1 (And.intro x2 hT)))
  clear x0 x1 x2 hT
  go_enter Try.func39, Try.ntmps39
  go_wp2_with fail
  go_ret
  exact ⟨rfl, FIN.out⟩

set_option maxRecDepth 100000 in
set_option maxHeartbeats 1000000 in
theorem onFile1_none (f b n pf pn pd : Nat) (D : DataW Unit) (name : ByteArray) (w : World) (h0 : w.cell? ⟨pf, 0, none⟩ = some (.pointer (some ⟨f, 0, none⟩))) (h1 : w.cell? ⟨pn, 0, none⟩ = some (.string name)) (h2 : w.cell? ⟨f, 1, none⟩ = some (.map (some b))) (hd : Dir w b n D) (hs : name.size ≤ maxLen) (hg : fileOf D name = none) :
    Calls Try.prog 73 #[.pointer (some ⟨pf, 0, none⟩), .pointer (some ⟨pn, 0, none⟩), .pointer (some ⟨pd, 0, none⟩)] w fun e w' => e = .returned (.int .i64 6) ∧ ∃ m, w' = w.drewN m := by
  have hl := fun m => Dir.look' (w := w.drewN m) hd name hs
  rw [hg] at hl
  simp only [ptrOf] at hl
  clear hd hg
  go_enter Try.func73, Try.ntmps73
  go_wp2_with fail
  go_quiet (fail)
  go_wp2_with fail
  go_ret
  exact ⟨rfl, _, rfl⟩

set_option maxRecDepth 100000 in
set_option maxHeartbeats 1000000 in
theorem onFile1_some (f b n pf pn pd g M : Nat) (caps : Array Value) (D : DataW Unit) (name : ByteArray) (w : World) (hent : ∀ w, (callFunc M (#[.pointer (some ⟨g, 0, none⟩)] ++ caps)).run Try.prog w = .ok (.enter M (#[.pointer (some ⟨g, 0, none⟩)] ++ caps)) w) (h0 : w.cell? ⟨pf, 0, none⟩ = some (.pointer (some ⟨f, 0, none⟩))) (h1 : w.cell? ⟨pn, 0, none⟩ = some (.string name)) (h2 : w.cell? ⟨f, 1, none⟩ = some (.map (some b)))
    (h3 : w.cell? ⟨pd, 0, none⟩ = some (.func (.func M) #[] caps)) (hd : Dir w b n D) (hs : name.size ≤ maxLen) (hg : fileOf D name = some g) (R : Ending → World → Prop)
    (HR : ∀ m, Calls Try.prog M (#[.pointer (some ⟨g, 0, none⟩)] ++ caps) (w.drewN m) fun e w' => ∃ z : Int, e = .returned (.int .i64 z) ∧ R (.returned (.int .i64 z)) w') :
    Calls Try.prog 73 #[.pointer (some ⟨pf, 0, none⟩), .pointer (some ⟨pn, 0, none⟩), .pointer (some ⟨pd, 0, none⟩)] w R := by
  have hl := fun m => Dir.look' (w := w.drewN m) hd name hs
  rw [hg] at hl
  simp only [ptrOf] at hl
  have HRR := hide HR
  clear hd hg HR
  go_enter Try.func73, Try.ntmps73
  go_wp2_with fail
  go_quiet (fail)
  go_wp2_with fail
  refine (HRR.out nq).mono ?_
  rintro e w2 ⟨z, rfl, hz⟩
  have HZ := hide hz
  clear hz
  go_wp2_with fail
  exact HZ.out

set_option maxRecDepth 100000 in
set_option maxHeartbeats 1000000 in
theorem sync_any (g n : Nat) (s0 : Int) (a : Option Addr) (c : Nat) (w : World) (h : w.heap[g]? = some (.cells #[.slice a n c, .int .i64 s0] 70 (0, 0))) :
    Calls Try.prog 49 #[.pointer (some ⟨g, 0, none⟩)] w fun e w' => (∃ v, e = .returned v) ∧ Tick w w' g 70 #[.slice a n c, .int .i64 (n : Nat)] := by
  have c0 : w.cell? ⟨g, 0, none⟩ = some (.slice a n c) := cell_of_row w g 0 _ 70 (0, 0) h
  have c1 : w.cell? ⟨g, 1, none⟩ = some (.int .i64 s0) := cell_of_row w g 1 _ 70 (0, 0) h
  have z1 : w.frozen? ⟨g, 1, none⟩ = false := frozen_of_row w g 1 _ 70 h
  have T := hide ((Tick.refl h).set 1 (.int .i64 (n : Nat)))
  clear h
  go_enter Try.func49, Try.ntmps49
  go_wp2_with fail
  go_end0
  exact ⟨⟨_, rfl⟩, T.out⟩
set_option maxRecDepth 100000 in
set_option maxHeartbeats 1000000 in
theorem sync1_any (g n : Nat) (s0 : Int) (a : Option Addr) (c : Nat) (w : World) (h : w.heap[g]? = some (.cells #[.slice a n c, .int .i64 s0] 70 (0, 0))) :
    Calls Try.prog 48 #[.pointer (some ⟨g, 0, none⟩)] w fun e w' => e = .returned (.int .i64 0) ∧ Tick w w' g 70 #[.slice a n c, .int .i64 (n : Nat)] := by
  have H := hide h
  clear h
  go_enter Try.func48, Try.ntmps48
  go_wp2_with fail
  refine (sync_any g n s0 a c _ H.out).mono ?_
  rintro e w1 ⟨⟨v, rfl⟩, t⟩
  have T := hide t
  clear t
  go_wp2_with fail
  go_ret
  exact ⟨rfl, T.out⟩
end Go.Proofs.Ytefjljdgdoklmaa
