/-
  The library's sort, of two entries in the wrong order.
-/
import Derived.Test.YtpdlbepkkfoadaaCm
namespace Go.Proofs.Ytpdlbepkkfoadaa
open Go.RowKit
set_option maxRecDepth 100000
set_option maxHeartbeats 4000000
def Two (w : World) (G : Nat) (x0 x1 x2 x3 x4 x5 x6 x7 : Value) : Prop := w.heap[G]? = some (.cells #[x0, x1, x2, x3, x4, x5, x6, x7] 34 (0, 0))
theorem turns_cell {G : Nat} {a w : World} (h : Turns (fun j => j = G) a w) (o : Nat) (v : Value) : Turns (fun j => j = G) a (w.setCell ⟨G, o, none⟩ v) :=
  h.trans ⟨rfl, rfl, rfl, by simp, fun k _ hn => heap_setCell_other _ _ _ _ (by exact hn)⟩
theorem Two.drew {w : World} {G : Nat} {x0 x1 x2 x3 x4 x5 x6 x7 : Value} (h : Two w G x0 x1 x2 x3 x4 x5 x6 x7) : Two w.drew G x0 x1 x2 x3 x4 x5 x6 x7 := h
theorem Two.drewN {w : World} {G : Nat} {x0 x1 x2 x3 x4 x5 x6 x7 : Value} (h : Two w G x0 x1 x2 x3 x4 x5 x6 x7) (n : Nat) : Two (w.drewN n) G x0 x1 x2 x3 x4 x5 x6 x7 := h
theorem swap8 {w : World} {G : Nat} {x0 x1 x2 x3 x4 x5 x6 x7 : Value} (h : Two w G x0 x1 x2 x3 x4 x5 x6 x7) :
    Two ((((((((w.setCell ⟨G, 4, none⟩ x0).setCell ⟨G, 5, none⟩ x1).setCell ⟨G, 6, none⟩ x2).setCell ⟨G, 7, none⟩ x3).setCell ⟨G, 0, none⟩ x4).setCell ⟨G, 1, none⟩ x5).setCell ⟨G, 2, none⟩ x6).setCell ⟨G, 3, none⟩ x7) G x4 x5 x6 x7 x0 x1 x2 x3 := by
  unfold Two at h ⊢
  have s1 := heap_setCell_same _ G 4 _ 34 x0 h
  simp only [List.setIfInBounds_toArray, List.set_cons_succ, List.set_cons_zero] at s1
  have s2 := heap_setCell_same _ G 5 _ 34 x1 s1
  simp only [List.setIfInBounds_toArray, List.set_cons_succ, List.set_cons_zero] at s2
  have s3 := heap_setCell_same _ G 6 _ 34 x2 s2
  simp only [List.setIfInBounds_toArray, List.set_cons_succ, List.set_cons_zero] at s3
  have s4 := heap_setCell_same _ G 7 _ 34 x3 s3
  simp only [List.setIfInBounds_toArray, List.set_cons_succ, List.set_cons_zero] at s4
  have s5 := heap_setCell_same _ G 0 _ 34 x4 s4
  simp only [List.setIfInBounds_toArray, List.set_cons_zero] at s5
  have s6 := heap_setCell_same _ G 1 _ 34 x5 s5
  simp only [List.setIfInBounds_toArray, List.set_cons_succ, List.set_cons_zero] at s6
  have s7 := heap_setCell_same _ G 2 _ 34 x6 s6
  simp only [List.setIfInBounds_toArray, List.set_cons_succ, List.set_cons_zero] at s7
  have s8 := heap_setCell_same _ G 3 _ 34 x7 s7
  simp only [List.setIfInBounds_toArray, List.set_cons_succ, List.set_cons_zero] at s8
  exact s8
theorem ins_two (G : Nat) (ka va kb vb : Option Addr) (kc vn vc kc' vn' vc' : Nat) (k0 k1 : Int) (w : World)
    (hrow : Two w G (.slice ka 1 kc) (.int .u64 1) (.int .i64 k0) (.slice va vn vc) (.slice kb 1 kc') (.int .u64 2) (.int .i64 k1) (.slice vb vn' vc'))
    (h0 : Bytes w (.slice ka 1 kc) [97#8]) (h1 : Bytes w (.slice kb 1 kc') [97#8]) :
    Calls Try.prog 60 #[.slice (some ⟨G, 0, none⟩) 2 2, .int .i64 0, .int .i64 2, .func (.func 16) #[] #[]] w fun e w' => (∃ v, e = .returned v) ∧ Two w' G (.slice kb 1 kc') (.int .u64 2) (.int .i64 k1) (.slice vb vn' vc') (.slice ka 1 kc) (.int .u64 1) (.int .i64 k0) (.slice va vn vc) ∧ Turns (fun j => j = G) w w' := by
  have H0 := hide h0
  have H1 := hide h1
  have HR := hide hrow
  clear h0 h1 hrow
  go_enter Try.func60, Try.ntmps60
  go_wp2_with fail
  go_loopw [8] (fun i wr => (i = .int .i64 1 ∧ Below w.heap.size w wr) ∨ (i = .int .i64 2 ∧ Two wr G (.slice kb 1 kc') (.int .u64 2) (.int .i64 k1) (.slice vb vn' vc') (.slice ka 1 kc) (.int .u64 1) (.int .i64 k0) (.slice va vn vc) ∧ Turns (fun j => j = G) w wr)) (fun i _ => 2 - (intOf i).toNat)
  case atStart => exact .inl ⟨rfl, Below.refl _ _⟩
  case round =>
    rcases hrel with ⟨rfl, hb⟩ | ⟨rfl, hr, ht⟩
    · have hr1 := heap_keep hb HR.out
      have R1 : Hid (Two wr G _ _ _ _ _ _ _ _) := hide hr1
      have K0 := hide (H0.out.below hb)
      have K1 := hide (H1.out.below hb)
      have HB := hide hb
      clear hb hr1
      go_wp2_with fail
      generalize hw1 : wr = w1 at *
      go_loopw [9] (fun j wx => (j = .int .i64 1 ∧ wx = w1) ∨ (j = .int .i64 0 ∧ Two wx G (.slice kb 1 kc') (.int .u64 2) (.int .i64 k1) (.slice vb vn' vc') (.slice ka 1 kc) (.int .u64 1) (.int .i64 k0) (.slice va vn vc) ∧ Turns (fun j => j = G) w wx)) (fun j _ => (intOf j).toNat)
      case atStart => exact .inl ⟨rfl, rfl⟩
      case round =>
        rcases hrel with ⟨rfl, rfl⟩ | ⟨rfl, hr, ht⟩
        · have hr1 := R1.out
          have c0 := cell_of_row _ _ 0 _ 34 (0, 0) hr1
          have c1 := cell_of_row _ _ 1 _ 34 (0, 0) hr1
          have c2 := cell_of_row _ _ 2 _ 34 (0, 0) hr1
          have c3 := cell_of_row _ _ 3 _ 34 (0, 0) hr1
          have c4 := cell_of_row _ _ 4 _ 34 (0, 0) hr1
          have c5 := cell_of_row _ _ 5 _ 34 (0, 0) hr1
          have c6 := cell_of_row _ _ 6 _ 34 (0, 0) hr1
          have c7 := cell_of_row _ _ 7 _ 34 (0, 0) hr1
          simp at c0 c1 c2 c3 c4 c5 c6 c7
          clear hr1
          have hv : cmpE ([97#8], 2) ([97#8], 1) = -1 := by decide
          go_wp2_with fail
          go_region_held (fun w' => w'.cell? ⟨G, 0, none⟩ = some (.slice ka 1 kc) ∧ w'.cell? ⟨G, 1, none⟩ = some (.int .u64 1) ∧ w'.cell? ⟨G, 2, none⟩ = some (.int .i64 k0) ∧ w'.cell? ⟨G, 3, none⟩ = some (.slice va vn vc) ∧ w'.cell? ⟨G, 4, none⟩ = some (.slice kb 1 kc') ∧ w'.cell? ⟨G, 5, none⟩ = some (.int .u64 2) ∧ w'.cell? ⟨G, 6, none⟩ = some (.int .i64 k1) ∧ w'.cell? ⟨G, 7, none⟩ = some (.slice vb vn' vc')) (first | (with_reducible exact ⟨d0, d1, d2, d3, d4, d5, d6, d7⟩) | (simp only [World.cell?_drew]; with_reducible exact ⟨c0, c1, c2, c3, c4, c5, c6, c7⟩)) (first
            | (go_at_call 16; refine (compare_any kb ka vb va 1 kc' vn' vc' 1 kc vn vc k1 k0 2 1 [97#8] [97#8] wr.drew K1.out K0.out).mono ?_; rintro e w2 ⟨rfl, b2⟩; rw [hv]; have hr2 := heap_keep b2 (show wr.drew.heap[G]? = _ from R1.out); have B2 := hide (HB.out.drew.trans (b2.mono HB.out.size)); have d0 := cell_of_row _ _ 0 _ 34 (0, 0) hr2; have d1 := cell_of_row _ _ 1 _ 34 (0, 0) hr2; have d2 := cell_of_row _ _ 2 _ 34 (0, 0) hr2; have d3 := cell_of_row _ _ 3 _ 34 (0, 0) hr2; have d4 := cell_of_row _ _ 4 _ 34 (0, 0) hr2; have d5 := cell_of_row _ _ 5 _ 34 (0, 0) hr2; have d6 := cell_of_row _ _ 6 _ 34 (0, 0) hr2; have d7 := cell_of_row _ _ 7 _ 34 (0, 0) hr2; simp at d0 d1 d2 d3 d4 d5 d6 d7; have R2 : Hid (Two w2 G _ _ _ _ _ _ _ _) := hide hr2; clear b2 hr2))
          go_wp2_with fail
          have hr2 := R2.out
          have z0 := frozen_of_row w2 G 0 _ 34 hr2
          have z1 := frozen_of_row w2 G 1 _ 34 hr2
          have z2 := frozen_of_row w2 G 2 _ 34 hr2
          have z3 := frozen_of_row w2 G 3 _ 34 hr2
          have z4 := frozen_of_row w2 G 4 _ 34 hr2
          have z5 := frozen_of_row w2 G 5 _ 34 hr2
          have z6 := frozen_of_row w2 G 6 _ 34 hr2
          have z7 := frozen_of_row w2 G 7 _ 34 hr2
          clear hr2 c0 c1 c2 c3 c4 c5 c6 c7
          go_region
          go_wp2_with fail
          go_roundw
          case rel =>
            refine .inr ⟨rfl, ?_, ?_⟩
            · exact Two.drew (swap8 R2.out)
            · exact (turns_cell (turns_cell (turns_cell (turns_cell (turns_cell (turns_cell (turns_cell (turns_cell (Turns.of_below B2.out _) _ _) _ _) _ _) _ _) _ _) _ _) _ _) _ _).drew
          case measure => simp [intOf]
        · have HR2 := hide hr
          have HT := hide ht
          clear hr ht
          have hg : decide ((0 : Int) < 0) = false := rfl
          go_wp2_with fail
          go_quiet (fail)
          go_wp2_with fail
          go_roundw
          case rel => exact .inr ⟨rfl, HR2.out.drewN _, HT.out.drewN _⟩
          case measure => simp [intOf]
    · have HR2 := hide hr
      have HT := hide ht
      clear hr ht
      go_wp2_with fail
      go_end0
      exact ⟨⟨_, rfl⟩, HR2.out, HT.out⟩

end Go.Proofs.Ytpdlbepkkfoadaa
