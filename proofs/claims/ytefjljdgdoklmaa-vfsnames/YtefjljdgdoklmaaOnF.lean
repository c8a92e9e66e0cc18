/-
  What is done to the file of a name, and SyncDir, through the guard.
-/
import Derived.Test.YtefjljdgdoklmaaSet
namespace Go.Proofs.Ytefjljdgdoklmaa
open Go.RowKit Go.Maps

theorem makeF : ∀ (fn : Fn) (first cap : Array Value) (w : World), (Instr.makeFunc fn first cap).run Try.prog w = .ok (.func fn first cap) w := fun _ _ _ _ => rfl
theorem enters47 (caps : Array Value) (w : World) : (callFunc 47 caps).run Try.prog w = .ok (.enter 47 caps) w := by kernel_rfl
theorem enters73 (caps : Array Value) (w : World) : (callFunc 73 caps).run Try.prog w = .ok (.enter 73 caps) w := by kernel_rfl

set_option maxRecDepth 100000 in
set_option maxHeartbeats 1000000 in
theorem syncdir_via (p : Option Addr) (w : World) (R : Ending → World → Prop)
    (HR : ∀ w1, Turns (fun _ => False) w w1 → w1.cell? ⟨w.heap.size, 0, none⟩ = some (.pointer p) → Calls Try.prog 36 #[.pointer p, .bool true, .func (.func 47) #[] #[.pointer (some ⟨w.heap.size, 0, none⟩)]] w1 fun e w' => ∃ z : Int, e = .returned (.int .i64 z) ∧ R (.returned (.int .i64 z)) w') :
    Calls Try.prog 13 #[.pointer p] w R := by
  have hmf := makeF
  have HRR := hide HR
  have hT : Turns (fun _ => False) w (w.alloc (.cells #[.pointer p] 22)) := (Turns.refl _ w).alloc _
  have x0 : (w.alloc (.cells #[.pointer p] 22)).cell? ⟨w.heap.size, 0, none⟩ = some (.pointer p) := cell_of_row _ _ 0 _ 22 (0, 0) (heap_alloc_new w _)
  have HT := hide hT
  clear HR hT
  go_enter Try.func13, Try.ntmps13
  go_wp2_with fail
  refine (HRR.out _ HT.out x0).mono ?_
  rintro e w2 ⟨z, rfl, hz⟩
  have HZ := hide hz
  clear hz
  go_wp2_with fail
  exact HZ.out

set_option maxRecDepth 100000 in
set_option maxHeartbeats 1000000 in
/-- onFile answers a closure over three variables of its own. -/
theorem onFile_any (p : Option Addr) (name : ByteArray) (M : Nat) (caps : Array Value) (w : World) :
    Calls Try.prog 39 #[.pointer p, .string name, .func (.func M) #[] caps] w fun e w' => e = .returned (.func (.func 73) #[] #[.pointer (some ⟨w.heap.size, 0, none⟩), .pointer (some ⟨w.heap.size + 1, 0, none⟩), .pointer (some ⟨w.heap.size + 2, 0, none⟩)]) ∧
      w'.cell? ⟨w.heap.size, 0, none⟩ = some (.pointer p) ∧ w'.cell? ⟨w.heap.size + 1, 0, none⟩ = some (.string name) ∧ w'.cell? ⟨w.heap.size + 2, 0, none⟩ = some (.func (.func M) #[] caps) ∧ Turns (fun _ => False) w w' := by
  have hmf := makeF
  have hT : Turns (fun _ => False) w (((w.alloc (.cells #[.pointer p] 22)).alloc (.cells #[.string name] 9)).alloc (.cells #[.func (.func M) #[] caps] 74)) := (((Turns.refl _ w).alloc _).alloc _).alloc _
  have x0 : (((w.alloc (.cells #[.pointer p] 22)).alloc (.cells #[.string name] 9)).alloc (.cells #[.func (.func M) #[] caps] 74)).cell? ⟨w.heap.size, 0, none⟩ = some (.pointer p) := cell_of_row _ _ 0 _ 22 (0, 0) ((heap_alloc_old _ _ (by simp; omega)).trans ((heap_alloc_old _ _ (by simp)).trans (heap_alloc_new w _)))
  have x1 : (((w.alloc (.cells #[.pointer p] 22)).alloc (.cells #[.string name] 9)).alloc (.cells #[.func (.func M) #[] caps] 74)).cell? ⟨w.heap.size + 1, 0, none⟩ = some (.string name) := cell_of_row _ _ 0 _ 9 (0, 0) ((heap_alloc_old _ _ (by simp)).trans (heap_alloc2_new w _ _))
  have x2 : (((w.alloc (.cells #[.pointer p] 22)).alloc (.cells #[.string name] 9)).alloc (.cells #[.func (.func M) #[] caps] 74)).cell? ⟨w.heap.size + 2, 0, none⟩ = some (.func (.func M) #[] caps) := by
    have := heap_alloc_new ((w.alloc (.cells #[.pointer p] 22)).alloc (.cells #[.string name] 9)) (.cells #[.func (.func M) #[] caps] 74)
    rw [show ((w.alloc (.cells #[.pointer p] 22)).alloc (.cells #[.string name] 9)).heap.size = w.heap.size + 2 by simp] at this
    exact cell_of_row _ _ 0 _ 74 (0, 0) this
  have FIN := hide (And.intro x0 (And.intro x1 (And.intro x2 hT)))
  clear x0 x1 x2 hT
  go_enter Try.func39, Try.ntmps39
  go_wp2_with fail
  go_ret
  exact ⟨rfl, FIN.out⟩

set_option maxRecDepth 100000 in
set_option maxHeartbeats 1000000 in
theorem onFile1_none (f b n pf pn pd : Nat) (D : DataW Unit) (name : ByteArray) (w : World) (h0 : w.cell? ⟨pf, 0, none⟩ = some (.pointer (some ⟨f, 0, none⟩))) (h1 : w.cell? ⟨pn, 0, none⟩ = some (.string name)) (h2 : w.cell? ⟨f, 1, none⟩ = some (.map (some b))) (hd : Dir w b n D) (hs : name.size ≤ maxLen) (hg : fileOf D name = none) :
    Calls Try.prog 73 #[.pointer (some ⟨pf, 0, none⟩), .pointer (some ⟨pn, 0, none⟩), .pointer (some ⟨pd, 0, none⟩)] w fun e w' => e = .returned (.int .i64 6) ∧ ∃ m, w' = w.drewN m := by
  have hl := fun m => Dir.look' (w := w.drewN m) hd name hs
  rw [hg] at hl
  simp only [ptrOf] at hl
  clear hd hg
  go_enter Try.func73, Try.ntmps73
  go_wp2_with fail
  go_quiet (fail)
  go_wp2_with fail
  go_ret
  exact ⟨rfl, _, rfl⟩

set_option maxRecDepth 100000 in
set_option maxHeartbeats 1000000 in
theorem onFile1_some (f b n pf pn pd g M : Nat) (caps : Array Value) (D : DataW Unit) (name : ByteArray) (w : World) (hent : ∀ w, (callFunc M (#[.pointer (some ⟨g, 0, none⟩)] ++ caps)).run Try.prog w = .ok (.enter M (#[.pointer (some ⟨g, 0, none⟩)] ++ caps)) w) (h0 : w.cell? ⟨pf, 0, none⟩ = some (.pointer (some ⟨f, 0, none⟩))) (h1 : w.cell? ⟨pn, 0, none⟩ = some (.string name)) (h2 : w.cell? ⟨f, 1, none⟩ = some (.map (some b)))
    (h3 : w.cell? ⟨pd, 0, none⟩ = some (.func (.func M) #[] caps)) (hd : Dir w b n D) (hs : name.size ≤ maxLen) (hg : fileOf D name = some g) (R : Ending → World → Prop)
    (HR : ∀ m, Calls Try.prog M (#[.pointer (some ⟨g, 0, none⟩)] ++ caps) (w.drewN m) fun e w' => ∃ z : Int, e = .returned (.int .i64 z) ∧ R (.returned (.int .i64 z)) w') :
    Calls Try.prog 73 #[.pointer (some ⟨pf, 0, none⟩), .pointer (some ⟨pn, 0, none⟩), .pointer (some ⟨pd, 0, none⟩)] w R := by
  have hl := fun m => Dir.look' (w := w.drewN m) hd name hs
  rw [hg] at hl
  simp only [ptrOf] at hl
  have HRR := hide HR
  clear hd hg HR
  go_enter Try.func73, Try.ntmps73
  go_wp2_with fail
  go_quiet (fail)
  go_wp2_with fail
  refine (HRR.out nq).mono ?_
  rintro e w2 ⟨z, rfl, hz⟩
  have HZ := hide hz
  clear hz
  go_wp2_with fail
  exact HZ.out

set_option maxRecDepth 100000 in
set_option maxHeartbeats 1000000 in
theorem sync_any (g n : Nat) (s0 : Int) (a : Option Addr) (c : Nat) (w : World) (h : w.heap[g]? = some (.cells #[.slice a n c, .int .i64 s0] 70 (0, 0))) :
    Calls Try.prog 49 #[.pointer (some ⟨g, 0, none⟩)] w fun e w' => (∃ v, e = .returned v) ∧ Tick w w' g 70 #[.slice a n c, .int .i64 (n : Nat)] := by
  have c0 : w.cell? ⟨g, 0, none⟩ = some (.slice a n c) := cell_of_row w g 0 _ 70 (0, 0) h
  have c1 : w.cell? ⟨g, 1, none⟩ = some (.int .i64 s0) := cell_of_row w g 1 _ 70 (0, 0) h
  have z1 : w.frozen? ⟨g, 1, none⟩ = false := frozen_of_row w g 1 _ 70 h
  have T := hide ((Tick.refl h).set 1 (.int .i64 (n : Nat)))
  clear h
  go_enter Try.func49, Try.ntmps49
  go_wp2_with fail
  go_end0
  exact ⟨⟨_, rfl⟩, T.out⟩
set_option maxRecDepth 100000 in
set_option maxHeartbeats 1000000 in
theorem sync1_any (g n : Nat) (s0 : Int) (a : Option Addr) (c : Nat) (w : World) (h : w.heap[g]? = some (.cells #[.slice a n c, .int .i64 s0] 70 (0, 0))) :
    Calls Try.prog 48 #[.pointer (some ⟨g, 0, none⟩)] w fun e w' => e = .returned (.int .i64 0) ∧ Tick w w' g 70 #[.slice a n c, .int .i64 (n : Nat)] := by
  have H := hide h
  clear h
  go_enter Try.func48, Try.ntmps48
  go_wp2_with fail
  refine (sync_any g n s0 a c _ H.out).mono ?_
  rintro e w1 ⟨⟨v, rfl⟩, t⟩
  have T := hide t
  clear t
  go_wp2_with fail
  go_ret
  exact ⟨rfl, T.out⟩
end Go.Proofs.Ytefjljdgdoklmaa
