/-
  Reading a file, whatever its bytes and wherever one begins.
-/
import Derived.Test.YtefjljdgdoklmaaRd1
namespace Go.Proofs.Ytefjljdgdoklmaa
open Go.RowKit Go.Maps

set_option maxRecDepth 100000 in
set_option maxHeartbeats 1000000 in
theorem read_past (g k c L : Nat) (s0 : Int) (at' n : Nat) (w : World) (h : w.heap[g]? = some (.cells #[.slice (some ⟨k, 0, none⟩) L c, .int .i64 s0] 70 (0, 0))) (hc : L ≤ c) (hL2 : L ≤ 1073741824) (h2 : n ≤ 9223372036854775807) (ha : L ≤ at') :
    Calls Try.prog 53 #[.pointer (some ⟨g, 0, none⟩), .int .i64 (at' : Nat), .int .i64 (n : Nat)] w fun e w' => ∃ q cq, e = .returned (.slice (some ⟨q, 0, none⟩) 0 cq) ∧ w.heap.size ≤ q ∧ RowB w' q cq [] ∧ Below w.heap.size w w' := by
  have c0 : w.cell? ⟨g, 0, none⟩ = some (.slice (some ⟨k, 0, none⟩) L c) := cell_of_row w g 0 _ 70 (0, 0) h
  clear h
  have g1 : ¬ (at' : Int) < (L : Int) := by omega
  have hcs : (at' = L ∨ L < at') ∧ (n = 0 ∨ 0 < n) := by omega
  obtain ⟨rfl | hlt, rfl | hn0⟩ := hcs
  all_goals
    go_enter Try.func53, Try.ntmps53
    go_wp2_with fail
    go_quiet (fail)
    go_wp2_with fail
  all_goals
    refine (clone_some _ 0 _ [] rfl (w.drewN nq) (Bytes.nothing _ _) (by simp)).mono ?_
    rintro e w2 ⟨q, cq, rfl, hq, hcq, hr, hb⟩
    have B2 : Hid (Below w.heap.size w w2) := (below_drewN (Below.refl _ _) nq).trans hb
    have R2 := hide hr
    clear hr hb
    go_wp2_with fail
    go_ret
    exact ⟨q, cq, rfl, hq, R2.out, B2.out⟩

set_option maxRecDepth 100000 in
set_option maxHeartbeats 1000000 in
theorem read_nil (g : Nat) (s0 : Int) (at' n : Nat) (w : World) (h : w.heap[g]? = some (.cells #[.slice none 0 0, .int .i64 s0] 70 (0, 0))) (h1 : at' ≤ 9223372036854775807) (h2 : n ≤ 9223372036854775807) :
    Calls Try.prog 53 #[.pointer (some ⟨g, 0, none⟩), .int .i64 (at' : Nat), .int .i64 (n : Nat)] w fun e w' => e = .returned (.slice none 0 0) ∧ Below w.heap.size w w' := by
  have c0 : w.cell? ⟨g, 0, none⟩ = some (.slice none 0 0) := cell_of_row w g 0 _ 70 (0, 0) h
  clear h
  have hcs : (at' = 0 ∨ 0 < at') ∧ (n = 0 ∨ 0 < n) := by omega
  obtain ⟨rfl | hlt, rfl | hn0⟩ := hcs
  all_goals
    go_enter Try.func53, Try.ntmps53
    go_wp2_with fail
    go_quiet (fail)
    go_wp2_with fail
  all_goals
    refine (clone_nil _).mono ?_
    rintro e w2 ⟨rfl, rfl⟩
    go_wp2_with fail
    go_ret
    exact ⟨rfl, below_drewN (Below.refl _ _) nq⟩

/-- What Read answers of a file, in memory of its own. -/
theorem read_all (g : Nat) (v : Value) (s0 : Int) (bs : List (BitVec 8)) (at' n : Nat) (w : World) (h : w.heap[g]? = some (.cells #[v, .int .i64 s0] 70 (0, 0))) (hown : OwnB w v bs) (hL2 : bs.length ≤ 1073741824) (h1 : at' ≤ 9223372036854775807) (h2 : n ≤ 9223372036854775807) :
    Calls Try.prog 53 #[.pointer (some ⟨g, 0, none⟩), .int .i64 (at' : Nat), .int .i64 (n : Nat)] w fun e w' => ∃ a m c, e = .returned (.slice a m c) ∧ OwnB w' (.slice a m c) (readOf bs at' n) ∧ (∀ k, inRow (.slice a m c) k → w.heap.size ≤ k) ∧ Below w.heap.size w w' := by
  rcases hown with ⟨rfl, rfl⟩ | ⟨k, c, L, rfl, rfl, hc, hrow⟩
  · refine (read_nil g s0 at' n w h h1 h2).mono ?_
    rintro e w' ⟨rfl, hb⟩
    refine ⟨none, 0, 0, rfl, .inl ⟨by simp [readOf], rfl⟩, fun k hk => ?_, hb⟩
    obtain ⟨_, _, e⟩ := hk
    cases e
  · rcases Nat.lt_or_ge at' bs.length with hlt | hge
    · refine (read_in g k c bs.length s0 bs at' n w h rfl hrow hc hL2 h1 h2 hlt).mono ?_
      rintro e w' ⟨q, m, cq, rfl, hm, hq, hcq, hr, hb⟩
      refine ⟨_, m, cq, rfl, .inr ⟨q, cq, m, rfl, hm, hcq, hr⟩, fun k hk => ?_, hb⟩
      obtain ⟨_, _, e⟩ := hk
      cases e
      exact hq
    · refine (read_past g k c bs.length s0 at' n w h hc hL2 h2 hge).mono ?_
      rintro e w' ⟨q, cq, rfl, hq, hr, hb⟩
      have hnil : readOf bs at' n = [] := by unfold readOf; rw [List.drop_eq_nil_of_le hge, List.take_nil]
      refine ⟨_, 0, cq, rfl, .inr ⟨q, cq, 0, rfl, by rw [hnil]; rfl, Nat.zero_le _, by rw [hnil]; exact hr⟩, fun k hk => ?_, hb⟩
      obtain ⟨_, _, e⟩ := hk
      cases e
      exact hq

set_option maxRecDepth 100000 in
set_option maxHeartbeats 1000000 in
theorem read1_all (g pa pn pb : Nat) (v : Value) (s0 : Int) (bs : List (BitVec 8)) (at' n : Nat) (w : World) (ha : w.cell? ⟨pa, 0, none⟩ = some (.int .i64 (at' : Nat))) (hn : w.cell? ⟨pn, 0, none⟩ = some (.int .i64 (n : Nat))) (hp : w.heap[pb]? = some (.cells #[.slice none 0 0] 28 (0, 0)))
    (h : w.heap[g]? = some (.cells #[v, .int .i64 s0] 70 (0, 0))) (hown : OwnB w v bs) (hL2 : bs.length ≤ 1073741824) (h1 : at' ≤ 9223372036854775807) (h2 : n ≤ 9223372036854775807) :
    Calls Try.prog 52 #[.pointer (some ⟨g, 0, none⟩), .pointer (some ⟨pa, 0, none⟩), .pointer (some ⟨pn, 0, none⟩), .pointer (some ⟨pb, 0, none⟩)] w fun e w' => e = .returned (.int .i64 0) ∧ ∃ a m c, w'.cell? ⟨pb, 0, none⟩ = some (.slice a m c) ∧ OwnB w' (.slice a m c) (readOf bs at' n) ∧ (∀ k, inRow (.slice a m c) k → w.heap.size ≤ k) ∧ Turns (fun j => j = pb) w w' := by
  have H := hide h
  have HO := hide hown
  have HP := hide hp
  have hpw := lt_of_heap hp
  clear h hown hp
  go_enter Try.func52, Try.ntmps52
  go_wp2_with fail
  refine (read_all g v s0 bs at' n _ H.out HO.out hL2 h1 h2).mono ?_
  rintro e w1 ⟨a, m, c, rfl, ho, hq, hb⟩
  have HP1 := hide (heap_keep hb HP.out)
  have p0 : w1.cell? ⟨pb, 0, none⟩ = some (.slice none 0 0) := cell_of_row w1 pb 0 _ 28 (0, 0) HP1.out
  have z0 : w1.frozen? ⟨pb, 0, none⟩ = false := frozen_of_row w1 pb 0 _ 28 HP1.out
  have t1 := (Tick.refl HP1.out).set 0 (.slice a m c)
  have u1 := Turns.of_tick t1
  have FIN : Hid ((w1.setCell ⟨pb, 0, none⟩ (.slice a m c)).cell? ⟨pb, 0, none⟩ = some (.slice a m c) ∧ OwnB (w1.setCell ⟨pb, 0, none⟩ (.slice a m c)) (.slice a m c) (readOf bs at' n) ∧ (∀ k, inRow (.slice a m c) k → w.heap.size ≤ k) ∧ Turns (fun j => j = pb) w (w1.setCell ⟨pb, 0, none⟩ (.slice a m c))) :=
    ⟨t1.cell 0, ho.keep u1 (fun k hk (e : k = pb) => by have := hq k hk; omega), hq, (Turns.of_below hb _).trans u1⟩
  clear t1 u1 ho hq hb
  go_wp2_with fail
  go_ret
  exact ⟨rfl, a, m, c, FIN.out⟩
end Go.Proofs.Ytefjljdgdoklmaa
