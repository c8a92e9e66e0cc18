import Derived.Test.YtjklbhdhjfifhaaGreatM01
/-
  The guard that every operation goes through.
-/
namespace Go.Proofs.YtjklbhdhjfifhaaGreat
open Go.RowKit

/-- The cells of a file system. -/
def fsCells (limit : Int) (nm sy ch : Value) (used lost : Int) (on : Bool) (ops fuse fault fail : Int) : Array Value :=
  #[.int .i64 limit, nm, sy, ch, .int .i64 used, .int .i64 lost, .bool on, .int .i64 ops, .int .i64 fuse, .int .i64 fault, .int .i64 fail]

theorem map_ne (b : Nat) (w : World) : (binOp .neq 68 (.map (some b)) (.map none)).run Tryz.prog w = .ok (.bool true) w := by kernel_rfl
theorem map_nil (w : World) : (binOp .neq 68 (.map none) (.map none)).run Tryz.prog w = .ok (.bool false) w := by kernel_rfl

set_option maxRecDepth 100000 in
set_option maxHeartbeats 1000000 in
theorem made_yes (f b : Nat) (w : World) (h : w.cell? ⟨f, 1, none⟩ = some (.map (some b))) :
    Calls Tryz.prog 53 #[.pointer (some ⟨f, 0, none⟩)] w fun e w' => e = .returned (.bool true) ∧ w' = w := by
  have hm := map_ne b
  go_enter Tryz.func53, Tryz.ntmps53
  go_wp2
  go_ret
  exact ⟨rfl, rfl⟩
set_option maxRecDepth 100000 in
set_option maxHeartbeats 1000000 in
theorem made_not (f : Nat) (w : World) (h : w.cell? ⟨f, 1, none⟩ = some (.map none)) :
    Calls Tryz.prog 53 #[.pointer (some ⟨f, 0, none⟩)] w fun e w' => e = .returned (.bool false) ∧ w' = w := by
  have hm := map_nil
  go_enter Tryz.func53, Tryz.ntmps53
  go_wp2
  go_ret
  exact ⟨rfl, rfl⟩
set_option maxRecDepth 100000 in
set_option maxHeartbeats 1000000 in
theorem made_nil (w : World) :
    Calls Tryz.prog 53 #[.pointer none] w fun e w' => e = .returned (.bool false) ∧ w' = w := by
  go_enter Tryz.func53, Tryz.ntmps53
  go_wp2
  go_ret
  exact ⟨rfl, rfl⟩
/-- What a countdown is behind one operation. -/
def tick (n : Int) : Int := if n < 0 then n else n - 1
set_option maxRecDepth 100000 in
set_option maxHeartbeats 1000000 in
theorem strikes_neg (g o : Nat) (n : Int) (w : World) (h : w.cell? ⟨g, o, none⟩ = some (.int .i64 n)) (h0 : n < 0) :
    Calls Tryz.prog 102 #[.pointer (some ⟨g, o, none⟩)] w fun e w' => e = .returned (.bool false) ∧ w' = w := by
  go_enter Tryz.func102, Tryz.ntmps102
  go_wp2
  go_ret
  exact ⟨rfl, rfl⟩
set_option maxRecDepth 100000 in
set_option maxHeartbeats 1000000 in
theorem strikes_pos (g o : Nat) (n : Int) (w : World) (h : w.cell? ⟨g, o, none⟩ = some (.int .i64 n)) (hf : w.frozen? ⟨g, o, none⟩ = false) (hn : n ≤ 9223372036854775807) (h0 : ¬ n < 0) :
    Calls Tryz.prog 102 #[.pointer (some ⟨g, o, none⟩)] w fun e w' => e = .returned (.bool (decide (n = 0))) ∧ w' = w.setCell ⟨g, o, none⟩ (.int .i64 (n - 1)) := by
  go_enter Tryz.func102, Tryz.ntmps102
  go_wp2
  go_ret
  exact ⟨ret_bool (by rw [decide_eq_decide]; omega), rfl⟩

/-- Only block f has turned, and it holds these cells. -/
def TickV (w w' : World) (f : Nat) (t : TypeId) (cs : Array Value) : Prop :=
  w'.heap[f]? = some (.cells cs t (0, 0)) ∧ w'.heap.size = w.heap.size ∧ (∀ b, b ≠ f → w'.heap[b]? = w.heap[b]?) ∧ ∀ B, B ≤ f → Below B w w'
theorem TickV.refl {w : World} {f : Nat} {t : TypeId} {cs : Array Value} (h : w.heap[f]? = some (.cells cs t (0, 0))) : TickV w w f t cs := ⟨h, rfl, fun _ _ => rfl, fun _ _ => Below.refl _ _⟩
theorem TickV.set {w w' : World} {f : Nat} {t : TypeId} {cs : Array Value} (h : TickV w w' f t cs) (o : Nat) (v : Value) : TickV w (w'.setCell ⟨f, o, none⟩ v) f t (cs.setIfInBounds o v) := by
  obtain ⟨h1, h2, h3, h4⟩ := h
  exact ⟨heap_setCell_same w' f o cs t v h1, by rw [← h2]; simp, fun b hb => (heap_setCell_other _ _ _ _ (by exact hb)).trans (h3 b hb), fun B hB => (h4 B hB).setCell (by exact hB) v⟩
theorem TickV.drew {w w' : World} {f : Nat} {t : TypeId} {cs : Array Value} (h : TickV w w' f t cs) : TickV w w'.drew f t cs := by
  obtain ⟨h1, h2, h3, h4⟩ := h
  exact ⟨h1, h2, h3, fun B hB => (h4 B hB).drew⟩
theorem TickV.cell {w w' : World} {f : Nat} {t : TypeId} {cs : Array Value} (h : TickV w w' f t cs) (o : Nat) : w'.cell? ⟨f, o, none⟩ = cs[o]? := cell_of_row w' f o cs t (0, 0) h.1
theorem TickV.frozen {w w' : World} {f : Nat} {t : TypeId} {cs : Array Value} (h : TickV w w' f t cs) (o : Nat) : w'.frozen? ⟨f, o, none⟩ = false := frozen_of_row w' f o cs t h.1
theorem strikes_any {W w : World} {f : Nat} {t : TypeId} {cs : Array Value} (h : TickV W w f t cs) (o : Nat) (n : Int) (ho : cs[o]? = some (.int .i64 n)) (hn : n ≤ 9223372036854775807) :
    Calls Tryz.prog 102 #[.pointer (some ⟨f, o, none⟩)] w fun e w' => e = .returned (.bool (decide (n = 0))) ∧ TickV W w' f t (cs.setIfInBounds o (.int .i64 (tick n))) := by
  by_cases h0 : n < 0
  · refine (strikes_neg f o n w ((h.cell o).trans ho) h0).mono fun e w' ⟨he, hw⟩ => ⟨?_, ?_⟩
    · rw [he, decide_eq_false (by omega)]
    · subst hw
      have : cs.setIfInBounds o (.int .i64 (tick n)) = cs := by
        unfold tick
        rw [if_pos h0]
        apply Array.ext_getElem?
        intro i
        rw [Array.getElem?_setIfInBounds]
        by_cases e : o = i
        · subst e
          rw [if_pos rfl, ho]
          have : o < cs.size := by
            rcases Nat.lt_or_ge o cs.size with l | l
            · exact l
            · rw [Array.getElem?_eq_none l] at ho; cases ho
          rw [if_pos this]
        · rw [if_neg e]
      rw [this]
      exact h
  · refine (strikes_pos f o n w ((h.cell o).trans ho) (h.frozen o) hn h0).mono fun e w' ⟨he, hw⟩ => ⟨he, ?_⟩
    subst hw
    have := h.set o (.int .i64 (n - 1))
    unfold tick
    rw [if_neg h0]
    exact this

set_option maxRecDepth 100000 in
set_option maxHeartbeats 4000000 in
theorem operate_go (f b N : Nat) (caps : Array Value) (hent : ∀ w, (callFunc N caps).run Tryz.prog w = .ok (.enter N caps) w) (limit used lost ops fuse fault fail : Int) (sy ch : Value) (w : World) (h : w.heap[f]? = some (.cells (fsCells limit (.map (some b)) sy ch used lost true ops fuse fault fail) 72 (0, 0)))
    (h7 : 0 ≤ ops ∧ ops ≤ 1000000) (h8 : fuse ≤ 9223372036854775807) (h9 : fault ≤ 9223372036854775807) (n8 : fuse ≠ 0) (n9 : fault ≠ 0) (R : Ending → World → Prop)
    (HR : ∀ wc, TickV w wc f 72 (fsCells limit (.map (some b)) sy ch used lost true (ops + 1) (tick fuse) (tick fault) fail) → Calls Tryz.prog N caps wc fun e w' => ∃ z : Int, e = .returned (.int .i64 z) ∧ R (.returned (.int .i64 z)) w') :
    Calls Tryz.prog 59 #[.pointer (some ⟨f, 0, none⟩), .bool true, .func (.func N) #[] caps] w R := by
  have c1 : w.cell? ⟨f, 1, none⟩ = some (.map (some b)) := cell_of_row w f 1 _ 72 (0, 0) h
  have c6 : w.cell? ⟨f, 6, none⟩ = some (.bool true) := cell_of_row w f 6 _ 72 (0, 0) h
  have c7 : w.cell? ⟨f, 7, none⟩ = some (.int .i64 ops) := cell_of_row w f 7 _ 72 (0, 0) h
  have z7 : w.frozen? ⟨f, 7, none⟩ = false := frozen_of_row w f 7 _ 72 h
  have T0 := hide ((TickV.refl h).set 7 (.int .i64 (ops + 1)))
  clear h
  have HRR := hide HR
  clear HR
  go_enter Tryz.func59, Tryz.ntmps59
  go_wp2_with fail
  refine (made_yes f b _ c1).mono ?_
  rintro e w1 ⟨rfl, rfl⟩
  go_wp2_with fail
  go_cut [7, 8] from 29 to 36 (fun v7 v8 wx => v7 = .bool false ∧ v8 = .bool false ∧ TickV w1 wx f 72 (fsCells limit (.map (some b)) sy ch used lost true (ops + 1) (tick fuse) (tick fault) fail))
  case first =>
    have TC := hide T0.out.drew
    go_region_with (first
      | (go_at_call_of 102 (Value.pointer (some ⟨f, 8, none⟩)); refine (strikes_any TC.out 8 fuse rfl h8).mono ?_; rintro e w2 ⟨rfl, t2⟩; have TC := hide t2; rw [decide_eq_false n8]; clear t2)
      | (go_at_call_of 102 (Value.pointer (some ⟨f, 9, none⟩)); refine (strikes_any TC.out 9 fault rfl h9).mono ?_; rintro e w3 ⟨rfl, t3⟩; have TC := hide t3; rw [decide_eq_false n9]; clear t3))
    all_goals go_wp2_with fail
    all_goals go_meet
    all_goals exact ⟨rfl, rfl, TC.out⟩
  case rest =>
    obtain ⟨rfl, rfl, hT⟩ := hcut
    have HT := hide hT
    clear hT c1 c6 c7 z7 T0
    go_wp2_with fail
    refine (HRR.out wc HT.out).mono ?_
    rintro e w2 ⟨z, rfl, hz⟩
    go_wp2_with fail
    exact hz

set_option maxRecDepth 100000 in
set_option maxHeartbeats 4000000 in
theorem operate_fuse (f b : Nat) (fv : Value) (limit used lost ops fuse fault fail : Int) (sy ch : Value) (w : World) (h : w.heap[f]? = some (.cells (fsCells limit (.map (some b)) sy ch used lost true ops fuse fault fail) 72 (0, 0)))
    (h7 : 0 ≤ ops ∧ ops ≤ 1000000) (h8 : fuse ≤ 9223372036854775807) (h9 : fault ≤ 9223372036854775807) (n8 : fuse = 0) :
    Calls Tryz.prog 59 #[.pointer (some ⟨f, 0, none⟩), .bool true, fv] w fun e w' => e = .returned (.int .i64 9) ∧ TickV w w' f 72 (fsCells limit (.map (some b)) sy ch used lost false (ops + 1) (tick fuse) (tick fault) fail) := by
  have c1 : w.cell? ⟨f, 1, none⟩ = some (.map (some b)) := cell_of_row w f 1 _ 72 (0, 0) h
  have c6 : w.cell? ⟨f, 6, none⟩ = some (.bool true) := cell_of_row w f 6 _ 72 (0, 0) h
  have c7 : w.cell? ⟨f, 7, none⟩ = some (.int .i64 ops) := cell_of_row w f 7 _ 72 (0, 0) h
  have z7 : w.frozen? ⟨f, 7, none⟩ = false := frozen_of_row w f 7 _ 72 h
  have T0 := hide ((TickV.refl h).set 7 (.int .i64 (ops + 1)))
  clear h
  go_enter Tryz.func59, Tryz.ntmps59
  go_wp2_with fail
  refine (made_yes f b _ c1).mono ?_
  rintro e w1 ⟨rfl, rfl⟩
  go_wp2_with fail
  go_cut [7, 8] from 29 to 36 (fun v7 v8 wx => v7 = .bool true ∧ v8 = .bool (decide (fault = 0)) ∧ TickV w1 wx f 72 (fsCells limit (.map (some b)) sy ch used lost true (ops + 1) (tick fuse) (tick fault) fail))
  case first =>
    rename_i qq kk rest jj kk' m1 m2
    clear rest
    have TC := hide T0.out.drew
    go_region_with (first
      | (go_at_call_of 102 (Value.pointer (some ⟨f, 8, none⟩)); refine (strikes_any TC.out 8 fuse rfl h8).mono ?_; rintro e w2 ⟨rfl, t2⟩; have TC := hide t2; rw [decide_eq_true n8]; clear t2)
      | (go_at_call_of 102 (Value.pointer (some ⟨f, 9, none⟩)); refine (strikes_any TC.out 9 fault rfl h9).mono ?_; rintro e w3 ⟨rfl, t3⟩; have TC := hide t3; clear t3))
    all_goals go_wp2_with fail
    all_goals go_meet
    all_goals exact ⟨rfl, rfl, TC.out⟩
  case rest =>
    obtain ⟨rfl, rfl, hT⟩ := hcut
    have HT := hide hT
    clear hT c1 c6 c7 z7 T0
    have z6 := HT.out.frozen 6
    have k6 : wc.cell? ⟨f, 6, none⟩ = some (.bool true) := HT.out.cell 6
    go_wp2_with fail
    go_ret
    exact ⟨rfl, HT.out.set 6 (.bool false)⟩

set_option maxRecDepth 100000 in
set_option maxHeartbeats 4000000 in
theorem operate_fault (f b : Nat) (fv : Value) (limit used lost ops fuse fault fail : Int) (sy ch : Value) (w : World) (h : w.heap[f]? = some (.cells (fsCells limit (.map (some b)) sy ch used lost true ops fuse fault fail) 72 (0, 0)))
    (h7 : 0 ≤ ops ∧ ops ≤ 1000000) (h8 : fuse ≤ 9223372036854775807) (h9 : fault ≤ 9223372036854775807) (n8 : fuse ≠ 0) (n9 : fault = 0) :
    Calls Tryz.prog 59 #[.pointer (some ⟨f, 0, none⟩), .bool true, fv] w fun e w' => e = .returned (.int .i64 fail) ∧ TickV w w' f 72 (fsCells limit (.map (some b)) sy ch used lost true (ops + 1) (tick fuse) (tick fault) fail) := by
  have c1 : w.cell? ⟨f, 1, none⟩ = some (.map (some b)) := cell_of_row w f 1 _ 72 (0, 0) h
  have c6 : w.cell? ⟨f, 6, none⟩ = some (.bool true) := cell_of_row w f 6 _ 72 (0, 0) h
  have c7 : w.cell? ⟨f, 7, none⟩ = some (.int .i64 ops) := cell_of_row w f 7 _ 72 (0, 0) h
  have z7 : w.frozen? ⟨f, 7, none⟩ = false := frozen_of_row w f 7 _ 72 h
  have T0 := hide ((TickV.refl h).set 7 (.int .i64 (ops + 1)))
  clear h
  go_enter Tryz.func59, Tryz.ntmps59
  go_wp2_with fail
  refine (made_yes f b _ c1).mono ?_
  rintro e w1 ⟨rfl, rfl⟩
  go_wp2_with fail
  go_cut [7, 8] from 29 to 36 (fun v7 v8 wx => v7 = .bool false ∧ v8 = .bool true ∧ TickV w1 wx f 72 (fsCells limit (.map (some b)) sy ch used lost true (ops + 1) (tick fuse) (tick fault) fail))
  case first =>
    rename_i qq kk rest jj kk' m1 m2
    clear rest
    have TC := hide T0.out.drew
    go_region_with (first
      | (go_at_call_of 102 (Value.pointer (some ⟨f, 8, none⟩)); refine (strikes_any TC.out 8 fuse rfl h8).mono ?_; rintro e w2 ⟨rfl, t2⟩; have TC := hide t2; rw [decide_eq_false n8]; clear t2)
      | (go_at_call_of 102 (Value.pointer (some ⟨f, 9, none⟩)); refine (strikes_any TC.out 9 fault rfl h9).mono ?_; rintro e w3 ⟨rfl, t3⟩; have TC := hide t3; rw [decide_eq_true n9]; clear t3))
    all_goals go_wp2_with fail
    all_goals go_meet
    all_goals exact ⟨rfl, rfl, TC.out⟩
  case rest =>
    obtain ⟨rfl, rfl, hT⟩ := hcut
    have HT := hide hT
    clear hT c1 c6 c7 z7 T0
    have k10 : wc.cell? ⟨f, 10, none⟩ = some (.int .i64 fail) := HT.out.cell 10
    go_wp2_with fail
    go_ret
    exact ⟨rfl, HT.out⟩

set_option maxRecDepth 100000 in
set_option maxHeartbeats 4000000 in
theorem operate_off (f b : Nat) (fv : Value) (limit used lost ops fuse fault fail : Int) (sy ch : Value) (w : World) (h : w.heap[f]? = some (.cells (fsCells limit (.map (some b)) sy ch used lost false ops fuse fault fail) 72 (0, 0))) :
    Calls Tryz.prog 59 #[.pointer (some ⟨f, 0, none⟩), .bool true, fv] w fun e w' => e = .returned (.int .i64 9) ∧ w' = w := by
  have c1 : w.cell? ⟨f, 1, none⟩ = some (.map (some b)) := cell_of_row w f 1 _ 72 (0, 0) h
  have c6 : w.cell? ⟨f, 6, none⟩ = some (.bool false) := cell_of_row w f 6 _ 72 (0, 0) h
  clear h
  go_enter Tryz.func59, Tryz.ntmps59
  go_wp2_with fail
  refine (made_yes f b _ c1).mono ?_
  rintro e w1 ⟨rfl, rfl⟩
  go_wp2_with fail
  go_ret
  exact ⟨rfl, rfl⟩

set_option maxRecDepth 100000 in
set_option maxHeartbeats 4000000 in
theorem operate_arg (f b : Nat) (fv : Value) (w : World) (c1 : w.cell? ⟨f, 1, none⟩ = some (.map (some b))) :
    Calls Tryz.prog 59 #[.pointer (some ⟨f, 0, none⟩), .bool false, fv] w fun e w' => e = .returned (.int .i64 2) ∧ w' = w := by
  go_enter Tryz.func59, Tryz.ntmps59
  go_wp2_with fail
  refine (made_yes f b _ c1).mono ?_
  rintro e w1 ⟨rfl, rfl⟩
  go_wp2_with fail
  go_ret
  exact ⟨rfl, rfl⟩

/-- A file system that is not there, or that nobody made. -/
def NoFs (w : World) (p : Option Addr) : Prop := p = none ∨ ∃ f : Nat, p = some ⟨f, 0, none⟩ ∧ w.cell? ⟨f, 1, none⟩ = some (.map none)
theorem made_no (p : Option Addr) (w : World) (h : NoFs w p) :
    Calls Tryz.prog 53 #[.pointer p] w fun e w' => e = .returned (.bool false) ∧ w' = w := by
  rcases h with rfl | ⟨f, rfl, h⟩
  · exact made_nil w
  · exact made_not f w h
set_option maxRecDepth 100000 in
set_option maxHeartbeats 4000000 in
theorem operate_no (p : Option Addr) (x : Bool) (fv : Value) (w : World) (h : NoFs w p) :
    Calls Tryz.prog 59 #[.pointer p, .bool x, fv] w fun e w' => e = .returned (.int .i64 1) ∧ w' = w := by
  have H := hide h
  clear h
  go_enter Tryz.func59, Tryz.ntmps59
  go_wp2_with fail
  refine (made_no p _ H.out).mono ?_
  rintro e w1 ⟨rfl, rfl⟩
  go_wp2_with fail
  go_ret
  exact ⟨rfl, rfl⟩
end Go.Proofs.YtjklbhdhjfifhaaGreat
