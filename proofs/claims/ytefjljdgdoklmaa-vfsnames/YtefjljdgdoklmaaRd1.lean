/-
  Read's closure: what it read is kept in a variable.
-/
import Derived.Test.YtefjljdgdoklmaaVia
namespace Go.Proofs.Ytefjljdgdoklmaa
open Go.RowKit Go.Maps

theorem enters52 (caps : Array Value) (w : World) : (callFunc 52 caps).run Try.prog w = .ok (.enter 52 caps) w := by kernel_rfl
theorem enters48 (caps : Array Value) (w : World) : (callFunc 48 caps).run Try.prog w = .ok (.enter 48 caps) w := by kernel_rfl
theorem enters40 (caps : Array Value) (w : World) : (callFunc 40 caps).run Try.prog w = .ok (.enter 40 caps) w := by kernel_rfl

set_option maxRecDepth 100000 in
set_option maxHeartbeats 1000000 in
theorem read1_in (g k c L pa pn pb : Nat) (s0 : Int) (bs : List (BitVec 8)) (at' n : Nat) (w : World) (ha : w.cell? ⟨pa, 0, none⟩ = some (.int .i64 (at' : Nat))) (hn : w.cell? ⟨pn, 0, none⟩ = some (.int .i64 (n : Nat))) (hp : w.heap[pb]? = some (.cells #[.slice none 0 0] 28 (0, 0)))
    (h : w.heap[g]? = some (.cells #[.slice (some ⟨k, 0, none⟩) L c, .int .i64 s0] 70 (0, 0))) (hL : L = bs.length) (hrow : RowB w k c bs) (hc : L ≤ c) (hL2 : L ≤ 1073741824) (h1 : at' ≤ 9223372036854775807) (h2 : n ≤ 9223372036854775807) (hlt : at' < L) :
    Calls Try.prog 52 #[.pointer (some ⟨g, 0, none⟩), .pointer (some ⟨pa, 0, none⟩), .pointer (some ⟨pn, 0, none⟩), .pointer (some ⟨pb, 0, none⟩)] w fun e w' => e = .returned (.int .i64 0) ∧ ∃ q m cq, w'.cell? ⟨pb, 0, none⟩ = some (.slice (some ⟨q, 0, none⟩) m cq) ∧ m = (readOf bs at' n).length ∧ w.heap.size ≤ q ∧ RowB w' q cq (readOf bs at' n) ∧ Turns (fun j => j = pb) w w' := by
  have H := hide h
  have HR := hide hrow
  have HL := hide hL
  have HP := hide hp
  have hpw := lt_of_heap hp
  clear h hrow hL hp
  go_enter Try.func52, Try.ntmps52
  go_wp2_with fail
  refine (read_in g k c L s0 bs at' n _ H.out HL.out HR.out hc hL2 h1 h2 hlt).mono ?_
  rintro e w1 ⟨q, m, cq, rfl, hm, hq, hcq, hr, hb⟩
  have HP1 := hide (heap_keep hb HP.out)
  have p0 : w1.cell? ⟨pb, 0, none⟩ = some (.slice none 0 0) := cell_of_row w1 pb 0 _ 28 (0, 0) HP1.out
  have z0 : w1.frozen? ⟨pb, 0, none⟩ = false := frozen_of_row w1 pb 0 _ 28 HP1.out
  have HM := hide hm
  have t1 := (Tick.refl HP1.out).set 0 (.slice (some ⟨q, 0, none⟩) m cq)
  have u1 := Turns.of_tick t1
  have hqp : q ≠ pb := by omega
  have FIN : Hid ((w1.setCell ⟨pb, 0, none⟩ (.slice (some ⟨q, 0, none⟩) m cq)).cell? ⟨pb, 0, none⟩ = some (.slice (some ⟨q, 0, none⟩) m cq) ∧ m = (readOf bs at' n).length ∧ w.heap.size ≤ q ∧ RowB (w1.setCell ⟨pb, 0, none⟩ (.slice (some ⟨q, 0, none⟩) m cq)) q cq (readOf bs at' n) ∧ Turns (fun j => j = pb) w (w1.setCell ⟨pb, 0, none⟩ (.slice (some ⟨q, 0, none⟩) m cq))) := by
    refine ⟨t1.cell 0, hm, hq, ?_, (Turns.of_below hb _).trans u1⟩
    obtain ⟨cs, r1, r2, r3⟩ := hr
    exact ⟨cs, u1.heap r1 hqp, r2, r3⟩
  clear hm t1 u1 hr hb
  go_wp2_with fail
  go_ret
  exact ⟨rfl, q, m, cq, FIN.out⟩
end Go.Proofs.Ytefjljdgdoklmaa
