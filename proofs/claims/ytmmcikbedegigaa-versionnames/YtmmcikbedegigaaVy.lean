/-
  tell; Apply.
-/
import Derived.Test.YtmmcikbedegigaaVx
namespace Go.Proofs.Ytmmcikbedegigaa
open Go.RowKit
set_option maxRecDepth 100000
set_option maxHeartbeats 4000000
section
variable {P : Program}
theorem results_cell_tmp {fn : Func} {j p : Tmp} {ty : TypeId} (h : fn.results = #[.cell p ty, .tmp j]) (tmps : Array Value) (w : World) (u : Value) (g : Nat) (t : TypeId) (cs : Array Value) (fr : Nat × Nat) (d : TypeDesc)
    (hu' : tmps.getD j undef = u) (hp : tmps.getD p undef = .pointer (some ⟨g, 0, none⟩)) (hg : w.heap[g]? = some (.cells cs t fr))
    (hu : P.underlying ty = some d) (hd : (match d with | .struct _ | .array _ _ => true | _ => false) = true) (hi : (P.info? ty).map (·.size) = some cs.size) :
    (results fn tmps).run P w = .ok (.tuple #[.agg cs, u]) w := by
  have hp' : tmps[p]?.getD undef = .pointer (some ⟨g, 0, none⟩) := by simpa using hp
  have hw' : tmps[j]?.getD undef = u := by simpa using hu'
  simp [results, h, hp', hw', asAddr, run_loadVar_row w g t ty cs fr d hg hu hd hi]
end
theorem sz25 : (Try.prog.info? 25).map (·.size) = some 4 := by kernel_rfl
def zeroVer : Value := .agg #[.slice none 0 0, .int .u64 0, .int .u64 0, .int .u64 0]
theorem tell_any (a : Option Addr) (c next seq log : Nat) (L : List Lv) (w : World) (h : VerIn w a 5 L next seq log) :
    Calls Try.prog 29 #[verAgg a 5 c next seq log] w fun e w' => e = .returned (.tuple #[if wrongV L next seq log then zeroVer else verAgg a 5 c next seq log, .int .i64 (chkV L next seq log)]) ∧ Turns (fun _ => False) w w' := by
  have TA := hide ((((Turns.refl (fun _ => False) w).alloc (.cells #[.slice a 5 c, .int .u64 (next : Nat), .int .u64 (seq : Nat), .int .u64 (log : Nat)] 57)).alloc (.cells #[.slice none 0 0, .int .u64 0, .int .u64 0, .int .u64 0] 25)).alloc (.cells #[.slice a 5 c, .int .u64 (next : Nat), .int .u64 (seq : Nat), .int .u64 (log : Nat)] 25))
  have R1 := hide (((Turns.refl (fun _ => False) ((w.alloc (.cells #[.slice a 5 c, .int .u64 (next : Nat), .int .u64 (seq : Nat), .int .u64 (log : Nat)] 57)).alloc (.cells #[.slice none 0 0, .int .u64 0, .int .u64 0, .int .u64 0] 25))).alloc (.cells #[.slice a 5 c, .int .u64 (next : Nat), .int .u64 (seq : Nat), .int .u64 (log : Nat)] 25)).heap (heap_alloc_new (w.alloc (.cells #[.slice a 5 c, .int .u64 (next : Nat), .int .u64 (seq : Nat), .int .u64 (log : Nat)] 57)) (.cells #[.slice none 0 0, .int .u64 0, .int .u64 0, .int .u64 0] 25)) (fun x => x))
  have R2 := hide (heap_alloc_new ((w.alloc (.cells #[.slice a 5 c, .int .u64 (next : Nat), .int .u64 (seq : Nat), .int .u64 (log : Nat)] 57)).alloc (.cells #[.slice none 0 0, .int .u64 0, .int .u64 0, .int .u64 0] 25)) (.cells #[.slice a 5 c, .int .u64 (next : Nat), .int .u64 (seq : Nat), .int .u64 (log : Nat)] 25))
  simp only [World.size_alloc] at R1 R2
  have CK := hide (check_any a 5 c next seq log L _ (h.quiet TA.out))
  have HV := hide (show chkV L next seq log = if wrongV L next seq log then 2 else 0 from rfl)
  unfold verAgg at *
  clear h
  generalize hV : wrongV L next seq log = V at *
  generalize chkV L next seq log = CV at *
  clear hV
  go_enter Try.func29, Try.ntmps29
  go_wp2_with fail
  refine CK.out.mono ?_
  rintro e w1 ⟨rfl, t1⟩
  have T1 := hide (TA.out.trans t1)
  have q1 := t1.heap R1.out (fun x => x)
  have q2 := t1.heap R2.out (fun x => x)
  have Q1 := hide q1
  have c0 := cell_of_row w1 (w.heap.size + 1 + 1) 0 _ 25 (0, 0) q2
  have c1 := cell_of_row w1 (w.heap.size + 1 + 1) 1 _ 25 (0, 0) q2
  have c2 := cell_of_row w1 (w.heap.size + 1 + 1) 2 _ 25 (0, 0) q2
  have c3 := cell_of_row w1 (w.heap.size + 1 + 1) 3 _ 25 (0, 0) q2
  have d0 := cell_of_row w1 (w.heap.size + 1) 0 _ 25 (0, 0) q1
  have d1 := cell_of_row w1 (w.heap.size + 1) 1 _ 25 (0, 0) q1
  have d2 := cell_of_row w1 (w.heap.size + 1) 2 _ 25 (0, 0) q1
  have d3 := cell_of_row w1 (w.heap.size + 1) 3 _ 25 (0, 0) q1
  have f0 := frozen_of_row w1 (w.heap.size + 1) 0 _ 25 q1
  have f1 := frozen_of_row w1 (w.heap.size + 1) 1 _ 25 q1
  have f2 := frozen_of_row w1 (w.heap.size + 1) 2 _ 25 q1
  have f3 := frozen_of_row w1 (w.heap.size + 1) 3 _ 25 q1
  clear q1 q2 t1 CK
  generalize hg : w.heap.size = g at *
  cases V
  · have hcv : CV = 0 := HV.out
    subst hcv
    go_wp2_with fail
    have tk := ((((Tick.refl Q1.out).set 0 (.slice a 5 c)).set 1 (.int .u64 (next : Nat))).set 2 (.int .u64 (seq : Nat))).set 3 (.int .u64 (log : Nat))
    refine bodyPost_ret (v := .tuple #[.agg #[.slice a 5 c, .int .u64 (next : Nat), .int .u64 (seq : Nat), .int .u64 (log : Nat)], .int .i64 0]) ?_ rfl ?_
    · exact results_cell_tmp Try.results29 _ _ _ _ _ _ _ _ rfl rfl tk.1 Try.underlying25 rfl sz25
    · exact ⟨rfl, T1.out.andThen (Turns.of_tick tk) fun j hj e => by omega⟩
  · have hcv : CV = 2 := HV.out
    subst hcv
    go_wp2_with fail
    have tk := ((((Tick.refl Q1.out).set 0 (.slice none 0 0)).set 1 (.int .u64 0)).set 2 (.int .u64 0)).set 3 (.int .u64 0)
    refine bodyPost_ret (v := .tuple #[.agg #[.slice none 0 0, .int .u64 0, .int .u64 0, .int .u64 0], .int .i64 2]) ?_ rfl ?_
    · exact results_cell_tmp Try.results29 _ _ _ _ _ _ _ _ rfl rfl tk.1 Try.underlying25 rfl sz25
    · exact ⟨rfl, T1.out.andThen (Turns.of_tick tk) fun j hj e => by omega⟩
end Go.Proofs.Ytmmcikbedegigaa
