/-
  What a file system tells, and what is set in it.
-/
import Derived.Test.YtefjljdgdoklmaaDc0
namespace Go.Proofs.Ytefjljdgdoklmaa
open Go.RowKit Go.Maps

def Disk.size (d : Disk) (s : ByteArray) : Int := match fileOf d.names s with
  | none => -1
  | some g => match d.files g with
    | none => -1
    | some x => (x.bytes.length : Int)

set_option maxRecDepth 100000 in
set_option maxHeartbeats 1000000 in
theorem size_rep (A : Nat → Prop) (f : Nat) (d : Disk) (name : ByteArray) (w : World) (h : Rep A w f d) (hnm : name.size ≤ maxLen) :
    Calls Try.prog 31 #[.pointer (some ⟨f, 0, none⟩), .string name] w fun e w' => e = .returned (.int .i64 (d.size name)) ∧ w' = w := by
  obtain ⟨bn, bs, ch, fv, h⟩ := h
  have c1 : w.cell? ⟨f, 1, none⟩ = some (.map (some bn)) := cell_of_row w f 1 _ 57 (0, 0) h.cells
  have hl := h.names.look' name hnm
  cases e : fileOf d.names name with
  | none =>
    have hsz : d.size name = -1 := by unfold Disk.size; rw [e]
    rw [e] at hl
    simp only [ptrOf] at hl
    rw [hsz]
    clear h e hsz
    go_enter Try.func31, Try.ntmps31
    go_wp2_with fail
    refine (made_yes f bn _ c1).mono ?_
    rintro e w1 ⟨rfl, rfl⟩
    go_wp2_with fail
    go_ret
    exact ⟨rfl, rfl⟩
  | some g =>
    obtain ⟨x, hx⟩ := h.refs.names name g e
    have hsz : d.size name = (x.bytes.length : Int) := by unfold Disk.size; rw [e]; simp only [hx]
    have hF := h.files.each g x hx
    obtain ⟨fa, fc, hfv⟩ := hF.own.slice
    have hc := hF.cell
    rw [hfv] at hc
    have c0 : w.cell? ⟨g, 0, none⟩ = some (.slice fa x.bytes.length fc) := cell_of_row w g 0 _ 70 (0, 0) hc
    rw [e] at hl
    simp only [ptrOf] at hl
    rw [hsz]
    clear h e hsz hF hfv hc hx
    generalize x.bytes.length = L at *
    go_enter Try.func31, Try.ntmps31
    go_wp2_with fail
    refine (made_yes f bn _ c1).mono ?_
    rintro e w1 ⟨rfl, rfl⟩
    go_wp2_with fail
    go_ret
    exact ⟨rfl, rfl⟩

set_option maxRecDepth 100000 in
set_option maxHeartbeats 1000000 in
theorem names_rep (A : Nat → Prop) (f : Nat) (d : Disk) (w : World) (h : Rep A w f d) (hn : Maps.size d.names ≤ 1000000) :
    Calls Try.prog 12 #[.pointer (some ⟨f, 0, none⟩)] w fun e w' => ∃ (va : Option Addr) (vc : Nat), e = .returned (.slice va (namesOf d.names).length vc) ∧ (∀ j, j < (namesOf d.names).length → ∃ q, va = some ⟨q, 0, none⟩ ∧ w.heap.size < q ∧ w'.cell? ⟨q, j, none⟩ = some (.string ((namesOf d.names).getD j ⟨#[]⟩))) ∧ Below w.heap.size w w' := by
  obtain ⟨bn, bs, ch, fv, h⟩ := h
  have c1 : w.cell? ⟨f, 1, none⟩ = some (.map (some bn)) := cell_of_row w f 1 _ 57 (0, 0) h.cells
  have HD := hide h.names
  clear h
  go_enter Try.func12, Try.ntmps12
  go_wp2_with fail
  refine (made_yes f bn _ c1).mono ?_
  rintro e w1 ⟨rfl, rfl⟩
  go_wp2_with fail
  refine (rising_names bn (Maps.size d.names) d.names _ HD.out (by omega)).mono ?_
  rintro e w2 ⟨va, vc, rfl, r1, r2, r3, r4, r5⟩
  have R2 := hide r2
  have R5 := hide r5
  clear r2 r3 r4 r5
  generalize hLn : (namesOf d.names).length = Ln at *
  go_wp2_with fail
  go_ret
  subst hLn
  exact ⟨va, vc, rfl, R2.out, R5.out⟩

set_option maxRecDepth 100000 in
set_option maxHeartbeats 1000000 in
theorem used_rep (A : Nat → Prop) (f : Nat) (d : Disk) (w : World) (h : Rep A w f d) : Calls Try.prog 32 #[.pointer (some ⟨f, 0, none⟩)] w fun e w' => e = .returned (.int .i64 d.used) ∧ w' = w := by
  obtain ⟨bn, bs, ch, fv, h⟩ := h
  have c1 : w.cell? ⟨f, 1, none⟩ = some (.map (some bn)) := cell_of_row w f 1 _ 57 (0, 0) h.cells
  have c4 : w.cell? ⟨f, 4, none⟩ = some (.int .i64 d.used) := cell_of_row w f 4 _ 57 (0, 0) h.cells
  clear h
  go_enter Try.func32, Try.ntmps32
  go_wp2_with fail
  refine (made_yes f bn _ c1).mono ?_
  rintro e w1 ⟨rfl, rfl⟩
  go_wp2_with fail
  go_ret
  exact ⟨rfl, rfl⟩
set_option maxRecDepth 100000 in
set_option maxHeartbeats 1000000 in
theorem ops_rep (A : Nat → Prop) (f : Nat) (d : Disk) (w : World) (h : Rep A w f d) : Calls Try.prog 33 #[.pointer (some ⟨f, 0, none⟩)] w fun e w' => e = .returned (.int .i64 d.ops) ∧ w' = w := by
  obtain ⟨bn, bs, ch, fv, h⟩ := h
  have c1 : w.cell? ⟨f, 1, none⟩ = some (.map (some bn)) := cell_of_row w f 1 _ 57 (0, 0) h.cells
  have c4 : w.cell? ⟨f, 7, none⟩ = some (.int .i64 d.ops) := cell_of_row w f 7 _ 57 (0, 0) h.cells
  clear h
  go_enter Try.func33, Try.ntmps33
  go_wp2_with fail
  refine (made_yes f bn _ c1).mono ?_
  rintro e w1 ⟨rfl, rfl⟩
  go_wp2_with fail
  go_ret
  exact ⟨rfl, rfl⟩
set_option maxRecDepth 100000 in
set_option maxHeartbeats 1000000 in
theorem on_rep (A : Nat → Prop) (f : Nat) (d : Disk) (w : World) (h : Rep A w f d) : Calls Try.prog 18 #[.pointer (some ⟨f, 0, none⟩)] w fun e w' => e = .returned (.bool d.on) ∧ w' = w := by
  obtain ⟨bn, bs, ch, fv, h⟩ := h
  have c1 : w.cell? ⟨f, 1, none⟩ = some (.map (some bn)) := cell_of_row w f 1 _ 57 (0, 0) h.cells
  have c4 : w.cell? ⟨f, 6, none⟩ = some (.bool d.on) := cell_of_row w f 6 _ 57 (0, 0) h.cells
  clear h
  generalize d.on = on at *
  go_enter Try.func18, Try.ntmps18
  go_wp2_with fail
  refine (made_yes f bn _ c1).mono ?_
  rintro e w1 ⟨rfl, rfl⟩
  go_wp2_with fail
  go_ret
  exact ⟨rfl, rfl⟩
set_option maxRecDepth 100000 in
set_option maxHeartbeats 1000000 in
theorem fuse_rep (A : Nat → Prop) (f : Nat) (d : Disk) (n : Int) (w : World) (h : Rep A w f d) : Calls Try.prog 17 #[.pointer (some ⟨f, 0, none⟩), .int .i64 n] w fun e w' => e = .returned (.int .i64 0) ∧ Rep A w' f { d with fuse := n } ∧ Turns A w w' := by
  obtain ⟨bn, bs, ch, fv, h⟩ := h
  have c1 : w.cell? ⟨f, 1, none⟩ = some (.map (some bn)) := cell_of_row w f 1 _ 57 (0, 0) h.cells
  have c8 : w.cell? ⟨f, 8, none⟩ = some (.int .i64 d.fuse) := cell_of_row w f 8 _ 57 (0, 0) h.cells
  have z8 : w.frozen? ⟨f, 8, none⟩ = false := frozen_of_row w f 8 _ 57 h.cells
  have t := (Tick.refl h.cells).set 8 (.int .i64 n)
  have FIN : Hid (Rep A (w.setCell ⟨f, 8, none⟩ (.int .i64 n)) f { d with fuse := n } ∧ Turns A w (w.setCell ⟨f, 8, none⟩ (.int .i64 n))) :=
    ⟨⟨bn, bs, ch, fv, h.turn (Turns.of_tick t) t.1 rfl rfl rfl rfl⟩, (Turns.of_tick t).mono fun k _ e => by rw [e]; exact h.af⟩
  clear h t
  go_enter Try.func17, Try.ntmps17
  go_wp2_with fail
  refine (made_yes f bn _ c1).mono ?_
  rintro e w1 ⟨rfl, rfl⟩
  go_wp2_with fail
  go_ret
  exact ⟨rfl, FIN.out⟩
set_option maxRecDepth 100000 in
set_option maxHeartbeats 1000000 in
theorem fault_bad (A : Nat → Prop) (f : Nat) (d : Disk) (n z : Int) (w : World) (h : Rep A w f d) (h7 : z ≠ 7) (h8 : z ≠ 8) : Calls Try.prog 19 #[.pointer (some ⟨f, 0, none⟩), .int .i64 n, .int .i64 z] w fun e w' => e = .returned (.int .i64 2) ∧ w' = w := by
  obtain ⟨bn, bs, ch, fv, h⟩ := h
  have c1 : w.cell? ⟨f, 1, none⟩ = some (.map (some bn)) := cell_of_row w f 1 _ 57 (0, 0) h.cells
  have g7 : (z != 7) = true := by rw [bne_iff_ne]; exact h7
  have g8 : (z != 8) = true := by rw [bne_iff_ne]; exact h8
  clear h
  go_enter Try.func19, Try.ntmps19
  go_wp2_with fail
  refine (made_yes f bn _ c1).mono ?_
  rintro e w1 ⟨rfl, rfl⟩
  go_wp2_with fail
  go_ret
  exact ⟨rfl, rfl⟩
set_option maxRecDepth 100000 in
set_option maxHeartbeats 1000000 in
theorem fault_rep (A : Nat → Prop) (f : Nat) (d : Disk) (n z : Int) (w : World) (h : Rep A w f d) (hz : z = 7 ∨ z = 8) : Calls Try.prog 19 #[.pointer (some ⟨f, 0, none⟩), .int .i64 n, .int .i64 z] w fun e w' => e = .returned (.int .i64 0) ∧ Rep A w' f { d with fault := n, fail := z } ∧ Turns A w w' := by
  obtain ⟨bn, bs, ch, fv, h⟩ := h
  have c1 : w.cell? ⟨f, 1, none⟩ = some (.map (some bn)) := cell_of_row w f 1 _ 57 (0, 0) h.cells
  have c8 : w.cell? ⟨f, 9, none⟩ = some (.int .i64 d.fault) := cell_of_row w f 9 _ 57 (0, 0) h.cells
  have z8 : w.frozen? ⟨f, 9, none⟩ = false := frozen_of_row w f 9 _ 57 h.cells
  have c9 : w.cell? ⟨f, 10, none⟩ = some (.int .i64 d.fail) := cell_of_row w f 10 _ 57 (0, 0) h.cells
  have z9 : w.frozen? ⟨f, 10, none⟩ = false := frozen_of_row w f 10 _ 57 h.cells
  have t := ((Tick.refl h.cells).set 9 (.int .i64 n)).set 10 (.int .i64 z)
  have FIN : Hid (Rep A ((w.setCell ⟨f, 9, none⟩ (.int .i64 n)).setCell ⟨f, 10, none⟩ (.int .i64 z)) f { d with fault := n, fail := z } ∧ Turns A w ((w.setCell ⟨f, 9, none⟩ (.int .i64 n)).setCell ⟨f, 10, none⟩ (.int .i64 z))) :=
    ⟨⟨bn, bs, ch, fv, h.turn (Turns.of_tick t) t.1 rfl rfl rfl rfl⟩, (Turns.of_tick t).mono fun k _ e => by rw [e]; exact h.af⟩
  clear h t
  rcases hz with rfl | rfl
  all_goals
    go_enter Try.func19, Try.ntmps19
    go_wp2_with fail
    refine (made_yes f bn _ c1).mono ?_
    rintro e w1 ⟨rfl, rfl⟩
    go_wp2_with fail
    go_ret
    exact ⟨rfl, FIN.out⟩
end Go.Proofs.Ytefjljdgdoklmaa
