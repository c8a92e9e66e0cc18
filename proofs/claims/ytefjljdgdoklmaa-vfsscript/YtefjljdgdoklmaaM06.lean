import Derived.Test.YtefjljdgdoklmaaM05
import Derived.Shelf.SlMaps.Clone
/-
  Append: bytes behind a file's bytes, if there is room.
-/
namespace Go.Proofs.Ytefjljdgdoklmaa
open Go.RowKit Go.Maps

/-- Bytes in a row of one's own, or none. -/
def OwnB (w : World) (v : Value) (bs : List (BitVec 8)) : Prop :=
  (bs = [] ∧ v = .slice none 0 0) ∨ ∃ (g c n : Nat), v = .slice (some ⟨g, 0, none⟩) n c ∧ n = bs.length ∧ n ≤ c ∧ RowB w g c bs
theorem OwnB.keep {S : Nat → Prop} {w w' : World} {v : Value} {bs : List (BitVec 8)} (h : OwnB w v bs) (ht : Turns S w w') (hn : ∀ k, inRow v k → ¬ S k) : OwnB w' v bs := by
  rcases h with h | ⟨g, c, n, h1, h2, h4, cs, h5, h6, h7⟩
  · exact .inl h
  · exact .inr ⟨g, c, n, h1, h2, h4, cs, ht.heap h5 (hn g ⟨n, c, h1⟩), h6, h7⟩
theorem OwnB.row {w : World} {v : Value} {bs : List (BitVec 8)} (h : OwnB w v bs) {k : Nat} (hk : inRow v k) : ∃ cs, w.heap[k]? = some (.cells cs 5 (0, 0)) := by
  obtain ⟨n', c', e⟩ := hk
  rcases h with ⟨_, h⟩ | ⟨g, c, n, h1, h2, h4, cs, h5, h6, h7⟩
  · rw [h] at e; cases e
  · rw [h1] at e; cases e; exact ⟨cs, h5⟩
theorem OwnB.bytes {w : World} {v : Value} {bs : List (BitVec 8)} (h : OwnB w v bs) : Bytes w v bs := by
  rcases h with ⟨rfl, rfl⟩ | ⟨g, c, n, rfl, rfl, _, h⟩
  · exact Bytes.empty w
  · exact RowB.bytes h rfl

/-- What append answers, onto bytes of one's own. -/
theorem append_own (w : World) (v : Value) (bs : List (BitVec 8)) (h : OwnB w v bs) (x : Value) (news : List (BitVec 8)) (hx : Bytes w x news) (hpos : 0 < news.length ∨ v ≠ .slice none 0 0) (hsm : bs.length + news.length ≤ 140737488355328) :
    ∃ (g' n' c' : Nat) (w' : World), (∀ ty, (Builtin.append_ #[28, 28] ty #[v, x]).run Try.prog w = .ok (.slice (some ⟨g', 0, none⟩) n' c') w') ∧ OwnB w' (.slice (some ⟨g', 0, none⟩) n' c') (bs ++ news) ∧ Turns (inRow v) w w' ∧ ∀ k, inRow (.slice (some ⟨g', 0, none⟩) n' c') k → inRow v k ∨ w.heap.size ≤ k := by
  obtain ⟨base, sLen, sCap, rfl, hsl, hbase⟩ : ∃ (base : Option Addr) (sLen sCap : Nat), v = .slice base sLen sCap ∧ sLen = bs.length ∧ ((base = none ∧ sLen = 0 ∧ sCap = 0 ∧ 0 < news.length) ∨ ∃ g, base = some ⟨g, 0, none⟩ ∧ 0 ≤ g ∧ sLen ≤ sCap ∧ RowB w g sCap bs) := by
    rcases h with ⟨rfl, rfl⟩ | ⟨g, c, n, rfl, rfl, h4, h5⟩
    · refine ⟨none, 0, 0, rfl, rfl, .inl ⟨rfl, rfl, rfl, ?_⟩⟩
      rcases hpos with h | h
      · exact h
      · exact absurd rfl h
    · exact ⟨_, _, _, rfl, rfl, .inr ⟨g, rfl, Nat.zero_le _, h4, h5⟩⟩
  obtain ⟨g, cp, w', hr, hg, hrow, hb, hcp, hin, hout, hkeep⟩ := append_bytes2 w 0 base sLen sCap bs hsl x news news.length rfl hx (Nat.zero_le _) hbase (by omega)
  refine ⟨g, _, cp, w', hr, .inr ⟨g, cp, _, rfl, by simp [hsl], hcp, hrow⟩, ⟨hb.os, hb.tape, hb.output, hb.size, fun k hk hn => hkeep k hk fun e => hn ⟨sLen, sCap, by rw [e]⟩⟩, fun k hk => ?_⟩
  obtain ⟨n', c', e⟩ := hk
  cases e
  rcases Nat.lt_or_ge sCap (sLen + news.length) with hc | hc
  · exact .inr (by rw [hout hc]; exact Nat.le_refl _)
  · exact .inl ⟨sLen, sCap, by rw [(hin hc).1]⟩

set_option maxRecDepth 100000 in
set_option maxHeartbeats 1000000 in
theorem append1_full (f pf pb : Nat) (x : Value) (n : Nat) (a : Option Addr) (c : Nat) (limit used : Int) (w : World) (h0 : w.cell? ⟨pf, 0, none⟩ = some (.pointer (some ⟨f, 0, none⟩))) (h1 : w.cell? ⟨pb, 0, none⟩ = some (.slice a n c))
    (h2 : w.cell? ⟨f, 0, none⟩ = some (.int .i64 limit)) (h3 : w.cell? ⟨f, 4, none⟩ = some (.int .i64 used)) (hl : 0 ≤ used ∧ used ≤ limit ∧ limit ≤ 1073741824) (hf : limit - used < (n : Int)) :
    Calls Try.prog 40 #[x, .pointer (some ⟨pb, 0, none⟩), .pointer (some ⟨pf, 0, none⟩)] w fun e w' => e = .returned (.int .i64 7) ∧ ∃ m, w' = w.drewN m := by
  go_enter Try.func40, Try.ntmps40
  go_wp2_with fail
  go_quiet (fail)
  go_wp2_with fail
  go_ret
  exact ⟨rfl, _, rfl⟩

set_option maxRecDepth 100000 in
set_option maxHeartbeats 4000000 in
theorem append1_any (f pf pb g : Nat) (cs : Array Value) (fv : Value) (s0 : Int) (bs news : List (BitVec 8)) (n : Nat) (a : Option Addr) (c : Nat) (limit used : Int) (w : World) (h0 : w.cell? ⟨pf, 0, none⟩ = some (.pointer (some ⟨f, 0, none⟩))) (h1 : w.cell? ⟨pb, 0, none⟩ = some (.slice a n c))
    (h : w.heap[f]? = some (.cells cs 57 (0, 0))) (h2 : cs[0]? = some (.int .i64 limit)) (h3 : cs[4]? = some (.int .i64 used)) (hl : 0 ≤ used ∧ used ≤ limit ∧ limit ≤ 1073741824) (hf : (n : Int) ≤ limit - used)
    (hx : w.heap[g]? = some (.cells #[fv, .int .i64 s0] 70 (0, 0))) (hown : OwnB w fv bs) (hb : Bytes w (.slice a n c) news) (hpos : 0 < n) (hbs : bs.length ≤ 1073741824) (hpg : pf ≠ g) (hbg : pb ≠ g) (hpr : ¬ inRow fv pf) (hbr : ¬ inRow fv pb) :
    Calls Try.prog 40 #[.pointer (some ⟨g, 0, none⟩), .pointer (some ⟨pb, 0, none⟩), .pointer (some ⟨pf, 0, none⟩)] w fun e w' => e = .returned (.int .i64 0) ∧ ∃ fv', w'.heap[g]? = some (.cells #[fv', .int .i64 s0] 70 (0, 0)) ∧ OwnB w' fv' (bs ++ news) ∧ w'.heap[f]? = some (.cells (cs.setIfInBounds 4 (.int .i64 (used + n))) 57 (0, 0)) ∧
      Turns (fun k => k = f ∨ k = g ∨ inRow fv k) w w' ∧ ∀ k, inRow fv' k → inRow fv k ∨ w.heap.size ≤ k := by
  have hnl := hb.len
  have hgf : g ≠ f := fun e => by rw [e, h] at hx; cases hx
  have hrow : ∀ k, inRow fv k → k ≠ f ∧ k ≠ g := fun k hk => by
    obtain ⟨cs', hc⟩ := hown.row hk
    exact ⟨fun e => (by rw [e, h] at hc; cases hc), fun e => (by rw [e, hx] at hc; cases hc)⟩
  have q0 : w.cell? ⟨f, 0, none⟩ = some (.int .i64 limit) := (cell_of_row w f 0 _ 57 (0, 0) h).trans h2
  have q4 : w.cell? ⟨f, 4, none⟩ = some (.int .i64 used) := (cell_of_row w f 4 _ 57 (0, 0) h).trans h3
  have hfw := lt_of_heap h
  have H := hide h
  have HX := hide hx
  have HO := hide hown
  have HB := hide hb
  have HRW := hide hrow
  have HNL := hide hnl
  have hfi : ¬ limit - used < (n : Int) := by omega
  clear h hx hown hb hrow hnl
  go_enter Try.func40, Try.ntmps40
  go_wp2_with fail
  go_quiet (fail)
  have r0 : (w.drewN nq).cell? ⟨pf, 0, none⟩ = some (.pointer (some ⟨f, 0, none⟩)) := h0
  have r1 : (w.drewN nq).cell? ⟨pb, 0, none⟩ = some (.slice a n c) := h1
  have t0 : Turns (fun k => k = f ∨ k = g ∨ inRow fv k) w (w.drewN nq) := (Turns.refl _ w).drewN nq
  have H1 : Hid ((w.drewN nq).heap[f]? = some (.cells cs 57 (0, 0))) := H.out
  have HX1 : Hid ((w.drewN nq).heap[g]? = some (.cells #[fv, .int .i64 s0] 70 (0, 0))) := HX.out
  have HO1 : Hid (OwnB (w.drewN nq) fv bs) := HO.out
  have HB1 : Hid (Bytes (w.drewN nq) (.slice a n c) news) := HB.out
  have hsz : (w.drewN nq).heap.size = w.heap.size := rfl
  have T0 := hide t0
  clear q0 q4 h0 h1 t0
  generalize w.drewN nq = w1 at *
  obtain ⟨g3, n3, c3, w3, hr3, ho3, t3, hin3⟩ := append_own w1.drew fv bs HO1.out (.slice a n c) news HB1.out (.inl (by have := HNL.out; omega)) (by have := HNL.out; omega)
  have y0 : w1.cell? ⟨g, 0, none⟩ = some fv := cell_of_row w1 g 0 _ 70 (0, 0) HX1.out
  have HX3 := hide (t3.heap (a := w1.drew) HX1.out (fun hk => (HRW.out g hk).2 rfl))
  have H3 := hide (t3.heap (a := w1.drew) H1.out (fun hk => (HRW.out f hk).1 rfl))
  have y3 : w3.cell? ⟨g, 0, none⟩ = some fv := cell_of_row w3 g 0 _ 70 (0, 0) HX3.out
  have z3 : w3.frozen? ⟨g, 0, none⟩ = false := frozen_of_row w3 g 0 _ 70 HX3.out
  have r03 := t3.cell (a := w1.drew) r0 hpr
  have r13 := t3.cell (a := w1.drew) r1 hbr
  have T3 := hide ((T0.out.drew).trans (t3.mono fun k _ e => .inr (.inr e)))
  have HO3 := hide ho3
  have HIN : Hid (∀ k, inRow (.slice (some ⟨g3, 0, none⟩) n3 c3) k → inRow fv k ∨ w.heap.size ≤ k) := fun k hk => by rw [← hsz]; exact hin3 k hk
  have hq := hr3 28
  clear ho3 t3 hin3 hr3
  go_wp2_with fail
  go_cut [23] from 17 to 25 (fun _ wx => wx = w3.setCell ⟨g, 0, none⟩ (.slice (some ⟨g3, 0, none⟩) n3 c3))
  case first =>
    go_region_law (first
      | (refine step_append_run rfl (.tmp 21) (.tmp 22) 28 rfl _ _ rfl rfl _ _ hq 23 rfl ?_; simp only [Act.put, List.setIfInBounds_toArray, List.set_cons_zero, List.set_cons_succ]))
    all_goals go_wp2_with fail
    all_goals go_meet
    all_goals rfl
  case rest =>
    subst hcut
    have t4 := (Tick.refl HX3.out).set 0 (.slice (some ⟨g3, 0, none⟩) n3 c3)
    have u4 := Turns.of_tick t4
    have hg3 : ∀ k, inRow (.slice (some ⟨g3, 0, none⟩) n3 c3) k → k ≠ g ∧ k ≠ f := fun k hk => by
      obtain ⟨cs', hc⟩ := HO3.out.row hk
      exact ⟨fun e => (by rw [e, HX3.out] at hc; cases hc), fun e => (by rw [e, H3.out] at hc; cases hc)⟩
    have H4 := hide (u4.heap H3.out (fun e => hgf e.symm))
    have HX4 := hide t4.1
    have HO4 := hide (HO3.out.keep u4 (fun k hk => (hg3 k hk).1))
    have T4 := hide (T3.out.trans (u4.mono fun k _ e => .inr (.inl e)))
    have r04 := u4.cell r03 hpg
    have r14 := u4.cell r13 hbg
    clear t4 u4 y0 y3 z3 r03 r13 hq r0 r1
    generalize w3.setCell ⟨g, 0, none⟩ (.slice (some ⟨g3, 0, none⟩) n3 c3) = wd at *
    have d4 : wd.cell? ⟨f, 4, none⟩ = some (.int .i64 used) := (cell_of_row wd f 4 _ 57 (0, 0) H4.out).trans h3
    have z4 : wd.frozen? ⟨f, 4, none⟩ = false := frozen_of_row wd f 4 _ 57 H4.out
    go_wp2_with fail
    go_cut [32] from 26 to 34 (fun _ wx => wx = (wd.setCell ⟨f, 4, none⟩ (.int .i64 (used + n))).drew)
    case first =>
      go_region_with (fail)
      all_goals go_wp2_with fail
      all_goals go_meet
      all_goals rw [wrapI _ (by omega) (by omega)]
    case rest =>
      subst hcut
      have t5 := ((Tick.refl H4.out).set 4 (.int .i64 (used + n))).drew
      have u5 := Turns.of_tick t5
      have FIN := hide (And.intro (u5.heap HX4.out hgf) (And.intro (HO4.out.keep u5 (fun k hk => (hg3 k hk).2)) (And.intro t5.1 (And.intro (T4.out.trans (u5.mono fun k _ e => .inl e)) HIN.out))))
      clear t5 u5
      go_wp2_with fail
      go_ret
      exact ⟨rfl, _, FIN.out⟩
end Go.Proofs.Ytefjljdgdoklmaa

/-
  Reading a file, and its crash.
-/
namespace Go.Proofs.Ytefjljdgdoklmaa
open Go.RowKit Go.Maps

theorem eqnil (a : Addr) (n c : Nat) (w : World) : (binOp .eql 28 (.slice (some a) n c) (.slice none 0 0)).run Try.prog w = .ok (.bool false) w := by kernel_rfl
theorem nilnil (w : World) : (binOp .eql 28 (.slice none 0 0) (.slice none 0 0)).run Try.prog w = .ok (.bool true) w := by kernel_rfl
set_option maxHeartbeats 400000 in
theorem clone_some (a : Addr) (n c0 : Nat) (bs : List (BitVec 8)) (hn0 : n = bs.length) (w : World) (h : Bytes w (.slice (some a) n c0) bs) (hn : bs.length ≤ 140737488355328) :
    Calls Try.prog 77 #[.slice (some a) n c0] w fun e w' => ∃ g c, e = .returned (.slice (some ⟨g, 0, none⟩) n c) ∧ w.heap.size ≤ g ∧ n ≤ c ∧ RowB w' g c bs ∧ Below w.heap.size w w' := by
  have hb : Below w.heap.size w (w.alloc (.cells #[] 5)) := (Below.refl _ _).alloc (Nat.le_refl _) _
  obtain ⟨g, c, w2, hr, hg, hrow, hb2, hc, _⟩ := append_bytes2 (w.alloc (.cells #[] 5)) w.heap.size (some ⟨w.heap.size, 0, none⟩) 0 0 [] rfl (.slice (some a) n c0) bs n hn0 (h.below hb) (by simp)
    (.inr ⟨_, rfl, Nat.le_refl _, Nat.le_refl _, #[], heap_alloc_new w _, Nat.le_refl _, fun k hk => by simp [cellsOf] at hk⟩) (by omega)
  rw [Nat.zero_add] at hr hc
  rw [List.nil_append] at hrow
  have HR := hide hr
  have HW := hide hrow
  have HB := hide (hb.trans hb2)
  clear hr hrow hb hb2 h hn0
  have hnil := eqnil a n c0
  go_enter Try.func77, Try.ntmps77
  go_wp2_with (at_builtin; refine wpList_append_run rfl _ _ 28 rfl _ _ rfl rfl _ _ (HR.out _) ?_)
  go_ret
  exact ⟨g, c, rfl, hg, hc, HW.out, HB.out⟩
set_option maxHeartbeats 400000 in
theorem clone_nil (w : World) :
    Calls Try.prog 77 #[.slice none 0 0] w fun e w' => e = .returned (.slice none 0 0) ∧ w' = w := by
  have hnil := nilnil
  go_enter Try.func77, Try.ntmps77
  go_wp2_with fail
  go_ret
  exact ⟨rfl, rfl⟩

/-- What Read answers of a file's bytes. -/
def readOf (bs : List (BitVec 8)) (at' n : Nat) : List (BitVec 8) := (bs.drop at').take n

set_option maxRecDepth 100000 in
set_option maxHeartbeats 4000000 in
theorem read_in (g k c L : Nat) (s0 : Int) (bs : List (BitVec 8)) (at' n : Nat) (w : World) (h : w.heap[g]? = some (.cells #[.slice (some ⟨k, 0, none⟩) L c, .int .i64 s0] 70 (0, 0))) (hL : L = bs.length) (hrow : RowB w k c bs) (hc : L ≤ c) (hL2 : L ≤ 1073741824) (h1 : at' ≤ 9223372036854775807) (h2 : n ≤ 9223372036854775807) (ha : at' < L) :
    Calls Try.prog 53 #[.pointer (some ⟨g, 0, none⟩), .int .i64 (at' : Nat), .int .i64 (n : Nat)] w fun e w' => ∃ q m cq, e = .returned (.slice (some ⟨q, 0, none⟩) m cq) ∧ m = (readOf bs at' n).length ∧ w.heap.size ≤ q ∧ m ≤ cq ∧ RowB w' q cq (readOf bs at' n) ∧ Below w.heap.size w w' := by
  have c0 : w.cell? ⟨g, 0, none⟩ = some (.slice (some ⟨k, 0, none⟩) L c) := cell_of_row w g 0 _ 70 (0, 0) h
  have HR := hide hrow
  have HL := hide hL
  clear h hrow hL
  have g1 : (at' : Int) < (L : Int) := by omega
  go_enter Try.func53, Try.ntmps53
  go_wp2_with fail
  go_quiet (fail)
  go_wp2_with fail
  · have hcase : L - at' ≤ n := by omega
    refine (clone_some _ _ _ (readOf bs at' n) (by unfold readOf; rw [List.length_take, List.length_drop]; have := HL.out; omega) (w.drewN nq) (by
      have := (RowB.bytes (w := w.drewN nq) (c' := c) HR.out HL.out).part at' (L - at') (c - at') (by have := HL.out; omega)
      rw [Nat.zero_add] at this
      unfold readOf
      rw [List.take_of_length_le (by rw [List.length_drop]; have := HL.out; omega)] at this ⊢
      exact this) (by unfold readOf; rw [List.length_take, List.length_drop]; have := HL.out; omega)).mono ?_
    rintro e w2 ⟨q, cq, rfl, hq, hcq, hr, hb⟩
    have R2 := hide hr
    have B2 : Hid (Below w.heap.size w w2) := (below_drewN (Below.refl _ _) nq).trans hb
    clear hr hb
    go_wp2_with fail
    go_ret
    exact ⟨q, _, cq, rfl, by unfold readOf; rw [List.length_take, List.length_drop]; have := HL.out; omega, hq, hcq, R2.out, B2.out⟩
  · have hcase : n ≤ L - at' := by omega
    refine (clone_some _ _ _ (readOf bs at' n) (by unfold readOf; rw [List.length_take, List.length_drop]; have := HL.out; omega) (w.drewN nq) (by
      have := (RowB.bytes (w := w.drewN nq) (c' := c) HR.out HL.out).part at' n (c - at') (by have := HL.out; omega)
      rw [Nat.zero_add] at this
      exact this) (by unfold readOf; rw [List.length_take, List.length_drop]; have := HL.out; omega)).mono ?_
    rintro e w2 ⟨q, cq, rfl, hq, hcq, hr, hb⟩
    have R2 := hide hr
    have B2 : Hid (Below w.heap.size w w2) := (below_drewN (Below.refl _ _) nq).trans hb
    clear hr hb
    go_wp2_with fail
    go_ret
    exact ⟨q, _, cq, rfl, by unfold readOf; rw [List.length_take, List.length_drop]; have := HL.out; omega, hq, hcq, R2.out, B2.out⟩
end Go.Proofs.Ytefjljdgdoklmaa

/-
  A copy of a directory.
-/
namespace Go.Proofs.Ytefjljdgdoklmaa
open Go.RowKit Go.Maps

theorem map_eql (b : Nat) (w : World) : (binOp .eql 53 (.map (some b)) (.map none)).run Try.prog w = .ok (.bool false) w := by kernel_rfl
theorem assert53 (v : Value) (w : World) : (Instr.typeAssert (.iface 53 v) 20 53 false).run Try.prog w = .ok v w := by kernel_rfl
set_option maxRecDepth 100000 in
set_option maxHeartbeats 1000000 in
theorem mapclone_any (b n : Nat) (D : DataW Unit) (w : World) (hd : Dir w b n D) :
    Calls Try.prog 44 #[.map (some b)] w fun e w' => e = .returned (.map (some w.heap.size)) ∧ Dir w' w.heap.size n D ∧ Turns (fun _ => False) w w' := by
  obtain ⟨es, clock, hb, F, hs, hD⟩ := hd
  have he := fun w => map_eql b w
  have hcf : (callFunc 74 #[.iface 53 (.map (some b))]).run Try.prog w = .ok (.value (.iface 53 (.map (some w.heap.size)))) (w.alloc (.map es clock)) := by
    rw [run_callFunc_extern Try.func74 (by kernel_rfl) (by kernel_rfl) (by kernel_rfl) (e := Extern.MapsClone.clone) (by kernel_rfl), run_maps_clone_sl w 53 hb]
    rfl
  have hta := fun v w => assert53 v w
  have FIN : Hid (Dir (w.alloc (.map es clock)) w.heap.size n D ∧ Turns (fun _ => False) w (w.alloc (.map es clock))) := ⟨⟨es, clock, heap_alloc_new w _, F, hs, hD⟩, (Turns.refl _ w).alloc _⟩
  clear hb F hs hD
  go_enter Try.func44, Try.ntmps44
  go_wp2_with fail
  go_ret
  exact ⟨rfl, FIN.out⟩

end Go.Proofs.Ytefjljdgdoklmaa

/-
  Sync, Append and Read go through the guard with a closure over the file of the name.
-/
namespace Go.Proofs.Ytefjljdgdoklmaa
open Go.RowKit Go.Maps

/-- The closure of onFile, with its three variables. -/
def OnVars (w : World) (q : Nat) (p : Option Addr) (name : ByteArray) (M : Nat) (caps : Array Value) : Prop :=
  w.cell? ⟨q, 0, none⟩ = some (.pointer p) ∧ w.cell? ⟨q + 1, 0, none⟩ = some (.string name) ∧ w.cell? ⟨q + 2, 0, none⟩ = some (.func (.func M) #[] caps)
def onVal (q : Nat) : Value := .func (.func 73) #[] #[.pointer (some ⟨q, 0, none⟩), .pointer (some ⟨q + 1, 0, none⟩), .pointer (some ⟨q + 2, 0, none⟩)]

set_option maxRecDepth 100000 in
set_option maxHeartbeats 1000000 in
theorem sync_via (p : Option Addr) (name : ByteArray) (w : World) (R : Ending → World → Prop)
    (HR : ∀ w1, Turns (fun _ => False) w w1 → OnVars w1 w.heap.size p name 48 #[] → Calls Try.prog 36 #[.pointer p, .bool (goodN name), onVal w.heap.size] w1 fun e w' => ∃ z : Int, e = .returned (.int .i64 z) ∧ R (.returned (.int .i64 z)) w') :
    Calls Try.prog 14 #[.pointer p, .string name] w R := by
  have HRR := hide HR
  clear HR
  go_enter Try.func14, Try.ntmps14
  go_wp2_with fail
  refine (name_any name _).mono ?_
  rintro e w1 ⟨rfl, rfl⟩
  go_wp2_with fail
  refine (onFile_any p name 48 #[] _).mono ?_
  rintro e w2 ⟨rfl, h0, h1, h2, ht⟩
  have HV : Hid (OnVars w2 w1.heap.size p name 48 #[]) := ⟨h0, h1, h2⟩
  have HT := hide ht
  clear h0 h1 h2 ht
  go_wp2_with fail
  refine (HRR.out w2 HT.out HV.out).mono ?_
  rintro e w3 ⟨z, rfl, hz⟩
  have HZ := hide hz
  clear hz
  go_wp2_with fail
  exact HZ.out

set_option maxRecDepth 100000 in
set_option maxHeartbeats 4000000 in
theorem append_via (p : Option Addr) (name : ByteArray) (a : Option Addr) (n c : Nat) (w : World) (R : Ending → World → Prop)
    (HR : ∀ w1, Turns (fun _ => False) w w1 → w1.cell? ⟨w.heap.size, 0, none⟩ = some (.pointer p) → w1.cell? ⟨w.heap.size + 1, 0, none⟩ = some (.slice a n c) → OnVars w1 (w.heap.size + 2) p name 40 #[.pointer (some ⟨w.heap.size + 1, 0, none⟩), .pointer (some ⟨w.heap.size, 0, none⟩)] →
      Calls Try.prog 36 #[.pointer p, .bool (goodN name), onVal (w.heap.size + 2)] w1 fun e w' => ∃ z : Int, e = .returned (.int .i64 z) ∧ R (.returned (.int .i64 z)) w' ∧ Turns (fun k => k < w.heap.size) w1 w') :
    Calls Try.prog 10 #[.pointer p, .string name, .slice a n c] w R := by
  have hmf := makeF
  have HRR := hide HR
  clear HR
  have hT : Turns (fun _ => False) w ((w.alloc (.cells #[.pointer p] 22)).alloc (.cells #[.slice a n c] 28)) := ((Turns.refl _ w).alloc _).alloc _
  have x0 : ((w.alloc (.cells #[.pointer p] 22)).alloc (.cells #[.slice a n c] 28)).cell? ⟨w.heap.size, 0, none⟩ = some (.pointer p) := cell_of_row _ _ 0 _ 22 (0, 0) ((heap_alloc_old _ _ (by simp)).trans (heap_alloc_new w _))
  have x1 : ((w.alloc (.cells #[.pointer p] 22)).alloc (.cells #[.slice a n c] 28)).cell? ⟨w.heap.size + 1, 0, none⟩ = some (.slice a n c) := cell_of_row _ _ 0 _ 28 (0, 0) (heap_alloc2_new w _ _)
  have hs1 : ((w.alloc (.cells #[.pointer p] 22)).alloc (.cells #[.slice a n c] 28)).heap.size = w.heap.size + 2 := by simp
  have HT := hide hT
  clear hT
  go_enter Try.func10, Try.ntmps10
  go_wp2_with fail
  generalize (w.alloc (.cells #[.pointer p] 22)).alloc (.cells #[.slice a n c] 28) = w1 at *
  generalize hpf : w.heap.size = pf at *
  have hs2 : w1.drew.heap.size = pf + 2 := hs1
  go_region_held (fun w' => w'.cell? ⟨pf, 0, none⟩ = some (.pointer p)) (first | (with_reducible exact f1) | (with_reducible exact f0) | (simp only [World.cell?_drew]; with_reducible exact x0)) (first
    | (go_at_call 22; refine (name_any name _).mono ?_; rintro e w2 ⟨rfl, rfl⟩)
    | (go_at_call 39; refine (onFile_any p name 40 _ _).mono ?_; rintro e w4 ⟨rfl, h0, h1, h2, ht⟩; rw [hs2] at h0 h1 h2 ⊢; have f0 := ht.cell (a := w1.drew) x0 (fun x => x); have g1 := ht.cell (a := w1.drew) x1 (fun x => x); have HV : Hid (OnVars w4 (pf + 2) p name 40 _) := ⟨h0, h1, h2⟩; have HT4 := hide (HT.out.drew.trans ht); clear h0 h1 h2 ht)
    | (go_at_call 36; refine (HRR.out _ HT4.out f0 g1 HV.out).mono ?_; rintro e w3 ⟨z, rfl, hz, ht⟩; have HZ := hide hz; have f1 := ht.cell f0 (Nat.lt_irrefl _); clear hz ht))
  all_goals go_wp2_with fail
  all_goals exact HZ.out

set_option maxRecDepth 100000 in
set_option maxHeartbeats 4000000 in
theorem read_via (p : Option Addr) (name : ByteArray) (at' n : Int) (w : World) (R : Ending → World → Prop)
    (HR : ∀ w1, Turns (fun _ => False) w w1 → w1.cell? ⟨w.heap.size, 0, none⟩ = some (.int .i64 at') → w1.cell? ⟨w.heap.size + 1, 0, none⟩ = some (.int .i64 n) → w1.heap[w.heap.size + 2]? = some (.cells #[.slice none 0 0] 28 (0, 0)) → OnVars w1 (w.heap.size + 3) p name 52 #[.pointer (some ⟨w.heap.size, 0, none⟩), .pointer (some ⟨w.heap.size + 1, 0, none⟩), .pointer (some ⟨w.heap.size + 2, 0, none⟩)] →
      Calls Try.prog 36 #[.pointer p, .bool (goodN name), onVal (w.heap.size + 3)] w1 fun e w' => ∃ (z : Int) (v : Value), e = .returned (.int .i64 z) ∧ w'.cell? ⟨w.heap.size + 2, 0, none⟩ = some v ∧ R (.returned (.tuple #[v, .int .i64 z])) w') (h1 : 0 ≤ at') (h2 : 0 ≤ n) :
    Calls Try.prog 20 #[.pointer p, .string name, .int .i64 at', .int .i64 n] w R := by
  have hmf := makeF
  have HRR := hide HR
  clear HR
  have hT : Turns (fun _ => False) w (((w.alloc (.cells #[.int .i64 at'] 3)).alloc (.cells #[.int .i64 n] 3)).alloc (.cells #[.slice none 0 0] 28)) := (((Turns.refl _ w).alloc _).alloc _).alloc _
  have x0 : (((w.alloc (.cells #[.int .i64 at'] 3)).alloc (.cells #[.int .i64 n] 3)).alloc (.cells #[.slice none 0 0] 28)).cell? ⟨w.heap.size, 0, none⟩ = some (.int .i64 at') := cell_of_row _ _ 0 _ 3 (0, 0) ((heap_alloc_old _ _ (by simp; omega)).trans ((heap_alloc_old _ _ (by simp)).trans (heap_alloc_new w _)))
  have x1 : (((w.alloc (.cells #[.int .i64 at'] 3)).alloc (.cells #[.int .i64 n] 3)).alloc (.cells #[.slice none 0 0] 28)).cell? ⟨w.heap.size + 1, 0, none⟩ = some (.int .i64 n) := cell_of_row _ _ 0 _ 3 (0, 0) ((heap_alloc_old _ _ (by simp)).trans (heap_alloc2_new w _ _))
  have x2 : (((w.alloc (.cells #[.int .i64 at'] 3)).alloc (.cells #[.int .i64 n] 3)).alloc (.cells #[.slice none 0 0] 28)).heap[w.heap.size + 2]? = some (.cells #[.slice none 0 0] 28 (0, 0)) := by
    have := heap_alloc_new ((w.alloc (.cells #[.int .i64 at'] 3)).alloc (.cells #[.int .i64 n] 3)) (.cells #[.slice none 0 0] 28)
    rwa [show ((w.alloc (.cells #[.int .i64 at'] 3)).alloc (.cells #[.int .i64 n] 3)).heap.size = w.heap.size + 2 by simp] at this
  have hs1 : (((w.alloc (.cells #[.int .i64 at'] 3)).alloc (.cells #[.int .i64 n] 3)).alloc (.cells #[.slice none 0 0] 28)).heap.size = w.heap.size + 3 := by simp
  have HT := hide hT
  have X2 := hide x2
  clear hT x2
  go_enter Try.func20, Try.ntmps20
  go_wp2_with fail
  generalize ((w.alloc (.cells #[.int .i64 at'] 3)).alloc (.cells #[.int .i64 n] 3)).alloc (.cells #[.slice none 0 0] 28) = w1 at *
  generalize hpf : w.heap.size = pf at *
  refine (name_any name _).mono ?_
  rintro e w2 ⟨rfl, rfl⟩
  cases hgn : goodN name with
  | false =>
    rw [hgn] at HRR
    go_wp2_with fail
    refine (onFile_any p name 52 _ _).mono ?_
    rintro e w4 ⟨rfl, k0, k1, k2, ht⟩
    rw [hs1] at k0 k1 k2 ⊢
    have HV : Hid (OnVars w4 (pf + 3) p name 52 _) := ⟨k0, k1, k2⟩
    have HC := hide (HRR.out w4 (HT.out.trans ht) (ht.cell x0 (fun x => x)) (ht.cell x1 (fun x => x)) (ht.heap X2.out (fun x => x)) HV.out)
    clear k0 k1 k2 ht
    go_wp2_with fail
    refine HC.out.mono ?_
    rintro e w5 ⟨z, v, rfl, hc, hz⟩
    have HZ := hide hz
    clear hz
    go_wp2_with fail
    exact HZ.out
  | true =>
    rw [hgn] at HRR
    go_wp2_with fail
    refine (onFile_any p name 52 _ _).mono ?_
    rintro e w4 ⟨rfl, k0, k1, k2, ht⟩
    rw [hs1] at k0 k1 k2 ⊢
    have HV : Hid (OnVars w4 (pf + 3) p name 52 _) := ⟨k0, k1, k2⟩
    have HC := hide (HRR.out w4 (HT.out.trans ht) (ht.cell x0 (fun x => x)) (ht.cell x1 (fun x => x)) (ht.heap X2.out (fun x => x)) HV.out)
    clear k0 k1 k2 ht
    go_wp2_with fail
    refine HC.out.mono ?_
    rintro e w5 ⟨z, v, rfl, hc, hz⟩
    have HZ := hide hz
    clear hz
    go_wp2_with fail
    exact HZ.out

set_option maxRecDepth 100000 in
set_option maxHeartbeats 1000000 in
theorem size_none (f b n : Nat) (D : DataW Unit) (name : ByteArray) (w : World) (h2 : w.cell? ⟨f, 1, none⟩ = some (.map (some b))) (hd : Dir w b n D) (hs : name.size ≤ maxLen) (hg : fileOf D name = none) :
    Calls Try.prog 31 #[.pointer (some ⟨f, 0, none⟩), .string name] w fun e w' => e = .returned (.int .i64 (-1)) ∧ w' = w := by
  have hl := hd.look' name hs
  rw [hg] at hl
  simp only [ptrOf] at hl
  clear hd hg
  go_enter Try.func31, Try.ntmps31
  go_wp2_with fail
  refine (made_yes f b _ h2).mono ?_
  rintro e w1 ⟨rfl, rfl⟩
  go_wp2_with fail
  go_ret
  exact ⟨rfl, rfl⟩
end Go.Proofs.Ytefjljdgdoklmaa
