import Derived.Test.YtjklbhdhjfifhaaGreatM09
import Derived.Deep.Upon
/-
  Append: bytes behind a file's bytes, any number of them.
-/
namespace Go.Proofs.YtjklbhdhjfifhaaGreat
open Go.RowKit Go.Maps

/-- What append answers, onto bytes of one's own, whatever their number. -/
theorem append_all (w : World) (v : Value) (bs : List (BitVec 8)) (h : OwnB w v bs) (x : Value) (news : List (BitVec 8)) (hx : Bytes w x news) (hsm : bs.length + news.length ≤ 140737488355328) :
    ∃ (a' : Option Addr) (n' c' : Nat) (w' : World), (∀ ty, (Builtin.append_ #[28, 28] ty #[v, x]).run Tryz.prog w = .ok (.slice a' n' c') w') ∧ OwnB w' (.slice a' n' c') (bs ++ news) ∧ Turns (inRowV v) w w' ∧ ∀ k, inRowV (.slice a' n' c') k → inRowV v k ∨ w.heap.size ≤ k := by
  by_cases hpos : 0 < news.length ∨ v ≠ .slice none 0 0
  · obtain ⟨g', n', c', w', h1, h2, h3, h4⟩ := append_own w v bs h x news hx hpos hsm
    exact ⟨_, n', c', w', h1, h2, h3, h4⟩
  · have hv : v = .slice none 0 0 := Classical.byContradiction fun e => hpos (.inr e)
    have hnl : news.length = 0 := by
      rcases Nat.eq_zero_or_pos news.length with e | e
      · exact e
      · exact absurd (.inl e) hpos
    obtain rfl : news = [] := by simpa using hnl
    subst hv
    have hb : bs = [] := by
      rcases h with ⟨e, _⟩ | ⟨g, c, n, e, _⟩
      · exact e
      · cases e
    subst hb
    have hs := src_of_bytes hx
    refine ⟨none, 0, 0, w, fun ty => run_append_nothing w 28 28 ty 5 Tryz.t5 Tryz.underlying28 info5 none 0 0 (Nat.le_refl _) x hs, .inl ⟨rfl, rfl⟩, Turns.refl _ _, fun k hk => .inl hk⟩

set_option maxRecDepth 100000 in
set_option maxHeartbeats 4000000 in
theorem append1_all (f pf pb g : Nat) (cs : Array Value) (fv : Value) (s0 : Int) (bs news : List (BitVec 8)) (n : Nat) (a : Option Addr) (c : Nat) (limit used : Int) (w : World) (h0 : w.cell? ⟨pf, 0, none⟩ = some (.pointer (some ⟨f, 0, none⟩))) (h1 : w.cell? ⟨pb, 0, none⟩ = some (.slice a n c))
    (h : w.heap[f]? = some (.cells cs 72 (0, 0))) (h2 : cs[0]? = some (.int .i64 limit)) (h3 : cs[4]? = some (.int .i64 used)) (hl : 0 ≤ used ∧ used ≤ limit ∧ limit ≤ 1073741824) (hf : (n : Int) ≤ limit - used)
    (hx : w.heap[g]? = some (.cells #[fv, .int .i64 s0] 99 (0, 0))) (hown : OwnB w fv bs) (hb : Bytes w (.slice a n c) news) (hbs : bs.length ≤ 1073741824) (hpg : pf ≠ g) (hbg : pb ≠ g) (hpr : ¬ inRowV fv pf) (hbr : ¬ inRowV fv pb) :
    Calls Tryz.prog 64 #[.pointer (some ⟨g, 0, none⟩), .pointer (some ⟨pb, 0, none⟩), .pointer (some ⟨pf, 0, none⟩)] w fun e w' => e = .returned (.int .i64 0) ∧ ∃ fv', w'.heap[g]? = some (.cells #[fv', .int .i64 s0] 99 (0, 0)) ∧ OwnB w' fv' (bs ++ news) ∧ w'.heap[f]? = some (.cells (cs.setIfInBounds 4 (.int .i64 (used + n))) 72 (0, 0)) ∧
      Turns (fun k => k = f ∨ k = g ∨ inRowV fv k) w w' ∧ ∀ k, inRowV fv' k → inRowV fv k ∨ w.heap.size ≤ k := by
  have hnl := hb.len
  have hgf : g ≠ f := fun e => by rw [e, h] at hx; cases hx
  have hrow : ∀ k, inRowV fv k → k ≠ f ∧ k ≠ g := fun k hk => by
    obtain ⟨cs', hc⟩ := hown.row hk
    exact ⟨fun e => (by rw [e, h] at hc; cases hc), fun e => (by rw [e, hx] at hc; cases hc)⟩
  have q0 : w.cell? ⟨f, 0, none⟩ = some (.int .i64 limit) := (cell_of_row w f 0 _ 72 (0, 0) h).trans h2
  have q4 : w.cell? ⟨f, 4, none⟩ = some (.int .i64 used) := (cell_of_row w f 4 _ 72 (0, 0) h).trans h3
  have hfw := lt_of_heap h
  have H := hide h
  have HX := hide hx
  have HO := hide hown
  have HB := hide hb
  have HRW := hide hrow
  have HNL := hide hnl
  have hfi : ¬ limit - used < (n : Int) := by omega
  clear h hx hown hb hrow hnl
  go_enter Tryz.func64, Tryz.ntmps64
  go_wp2_with fail
  go_quiet (fail)
  have r0 : (w.drewN nq).cell? ⟨pf, 0, none⟩ = some (.pointer (some ⟨f, 0, none⟩)) := h0
  have r1 : (w.drewN nq).cell? ⟨pb, 0, none⟩ = some (.slice a n c) := h1
  have t0 : Turns (fun k => k = f ∨ k = g ∨ inRowV fv k) w (w.drewN nq) := (Turns.refl _ w).drewN nq
  have H1 : Hid ((w.drewN nq).heap[f]? = some (.cells cs 72 (0, 0))) := H.out
  have HX1 : Hid ((w.drewN nq).heap[g]? = some (.cells #[fv, .int .i64 s0] 99 (0, 0))) := HX.out
  have HO1 : Hid (OwnB (w.drewN nq) fv bs) := HO.out
  have HB1 : Hid (Bytes (w.drewN nq) (.slice a n c) news) := HB.out
  have hsz : (w.drewN nq).heap.size = w.heap.size := rfl
  have T0 := hide t0
  clear q0 q4 h0 h1 t0
  generalize w.drewN nq = w1 at *
  obtain ⟨g3, n3, c3, w3, hr3, ho3, t3, hin3⟩ := append_all w1.drew fv bs HO1.out (.slice a n c) news HB1.out (by have := HNL.out; omega)
  have y0 : w1.cell? ⟨g, 0, none⟩ = some fv := cell_of_row w1 g 0 _ 99 (0, 0) HX1.out
  have HX3 := hide (t3.heap (a := w1.drew) HX1.out (fun hk => (HRW.out g hk).2 rfl))
  have H3 := hide (t3.heap (a := w1.drew) H1.out (fun hk => (HRW.out f hk).1 rfl))
  have y3 : w3.cell? ⟨g, 0, none⟩ = some fv := cell_of_row w3 g 0 _ 99 (0, 0) HX3.out
  have z3 : w3.frozen? ⟨g, 0, none⟩ = false := frozen_of_row w3 g 0 _ 99 HX3.out
  have r03 := t3.cell (a := w1.drew) r0 hpr
  have r13 := t3.cell (a := w1.drew) r1 hbr
  have T3 := hide ((T0.out.drew).trans (t3.mono fun k _ e => .inr (.inr e)))
  have HO3 := hide ho3
  have HIN : Hid (∀ k, inRowV (.slice g3 n3 c3) k → inRowV fv k ∨ w.heap.size ≤ k) := fun k hk => by rw [← hsz]; exact hin3 k hk
  have hq := hr3 28
  clear ho3 t3 hin3 hr3
  go_wp2_with fail
  go_cut [23] from 17 to 25 (fun _ wx => wx = w3.setCell ⟨g, 0, none⟩ (.slice g3 n3 c3))
  case first =>
    go_region_law (first
      | (refine step_append_runV rfl (.tmp 21) (.tmp 22) 28 rfl _ _ rfl rfl _ _ hq 23 rfl ?_; simp only [Act.put, List.setIfInBounds_toArray, List.set_cons_zero, List.set_cons_succ]))
    all_goals go_wp2_with fail
    all_goals go_meet
    all_goals rfl
  case rest =>
    subst hcut
    have t4 := (TickV.refl HX3.out).set 0 (.slice g3 n3 c3)
    have u4 := Turns.of_tickV t4
    have hg3 : ∀ k, inRowV (.slice g3 n3 c3) k → k ≠ g ∧ k ≠ f := fun k hk => by
      obtain ⟨cs', hc⟩ := HO3.out.row hk
      exact ⟨fun e => (by rw [e, HX3.out] at hc; cases hc), fun e => (by rw [e, H3.out] at hc; cases hc)⟩
    have H4 := hide (u4.heap H3.out (fun e => hgf e.symm))
    have HX4 := hide t4.1
    have HO4 := hide (HO3.out.keep u4 (fun k hk => (hg3 k hk).1))
    have T4 := hide (T3.out.trans (u4.mono fun k _ e => .inr (.inl e)))
    have r04 := u4.cell r03 hpg
    have r14 := u4.cell r13 hbg
    clear t4 u4 y0 y3 z3 r03 r13 hq r0 r1
    generalize w3.setCell ⟨g, 0, none⟩ (.slice g3 n3 c3) = wd at *
    have d4 : wd.cell? ⟨f, 4, none⟩ = some (.int .i64 used) := (cell_of_row wd f 4 _ 72 (0, 0) H4.out).trans h3
    have z4 : wd.frozen? ⟨f, 4, none⟩ = false := frozen_of_row wd f 4 _ 72 H4.out
    go_wp2_with fail
    go_cut [32] from 26 to 34 (fun _ wx => wx = (wd.setCell ⟨f, 4, none⟩ (.int .i64 (used + n))).drew)
    case first =>
      go_region_with (fail)
      all_goals go_wp2_with fail
      all_goals go_meet
      all_goals rw [wrapIV _ (by omega) (by omega)]
    case rest =>
      subst hcut
      have t5 := ((TickV.refl H4.out).set 4 (.int .i64 (used + n))).drew
      have u5 := Turns.of_tickV t5
      have FIN := hide (And.intro (u5.heap HX4.out hgf) (And.intro (HO4.out.keep u5 (fun k hk => (hg3 k hk).2)) (And.intro t5.1 (And.intro (T4.out.trans (u5.mono fun k _ e => .inl e)) HIN.out))))
      clear t5 u5
      go_wp2_with fail
      go_ret
      exact ⟨rfl, _, FIN.out⟩
end Go.Proofs.YtjklbhdhjfifhaaGreat
