/-
  Check.
-/
import Derived.Test.YtkmcdjbadngfgaaVi
namespace Go.Proofs.Ytkmcdjbadngfgaa
open Go.RowKit Go.Maps
set_option maxRecDepth 100000
set_option maxHeartbeats 4000000
def chkV (L : List Lv) (next seq log : Nat) : Int := if wrongV L next seq log then 2 else 0
theorem wrongV_files {L : List Lv} {next seq log : Nat} (h : wrongV L next seq log = false) : ∀ x ∈ L, ∀ y ∈ x.l, wrongF y.f = false := by
  intro x hx y hy
  unfold wrongV at h
  simp only [Bool.or_eq_false_iff] at h
  obtain ⟨k, hk⟩ := List.getElem?_of_mem hx
  have := List.any_eq_false.1 h.1.2 (x, k) (List.mem_zipIdx_iff_getElem?.2 hk)
  simp only [wrongLv, Bool.or_eq_true, not_or] at this
  have h2 := this.1.1
  rw [Bool.not_eq_true] at h2
  have := List.any_eq_false.1 h2 y hy
  simpa [wrongT] using this
/-- A version in memory that is not too long. -/
structure VerIn (w : World) (a : Option Addr) (n : Nat) (L : List Lv) (next seq log : Nat) : Prop where
  levs : Levs w a L
  len : n = L.length
  cnt : cnt L ≤ 5000
  byts : byts L ≤ 600000
  fit : Fit L
  b1 : next < 18446744073709551616
  b2 : seq < 18446744073709551616
  b3 : log < 18446744073709551616
theorem VerIn.quiet {w w' : World} {a : Option Addr} {n : Nat} {L : List Lv} {next seq log : Nat} (h : VerIn w a n L next seq log) (t : Turns (fun _ => False) w w') : VerIn w' a n L next seq log := ⟨h.levs.quiet t, h.len, h.cnt, h.byts, h.fit, h.b1, h.b2, h.b3⟩
theorem isLong_any (a : Option Addr) (n c next seq log : Nat) (L : List Lv) (w : World) (h : VerIn w a n L next seq log) (h0 : wrongV L next seq log = false) :
    Calls Try.prog 56 #[verAgg a n c next seq log] w fun e w' => e = .returned (.bool false) ∧ Turns (fun _ => False) w w' := by
  have H5 : n = 5 := by
    unfold wrongV at h0
    simp only [Bool.or_eq_false_iff, decide_eq_false_iff_not] at h0
    have := h.len
    omega
  subst H5
  have TA := hide ((Turns.refl (fun _ => False) w).alloc (.cells #[.slice a 5 c, .int .u64 (next : Nat), .int .u64 (seq : Nat), .int .u64 (log : Nat)] 25))
  have R0 := hide (heap_alloc_new w (.cells #[.slice a 5 c, .int .u64 (next : Nat), .int .u64 (seq : Nat), .int .u64 (log : Nat)] 25))
  have CN := hide (count_any a 5 c L _ (h.levs.quiet TA.out) h.len (by omega) (by have := h.cnt; omega))
  have WS := hide (fun (u : World) (t : Turns (fun _ => False) w u) => wholeSize_any a 5 c next seq log L u (h.levs.quiet t) h.len (by omega) (by have := h.cnt; omega) h.fit (wrongV_files h0) h.b1 h.b2 h.b3 (by have := h.byts; omega))
  have HC := hide h.cnt
  have HBY := hide h.byts
  unfold verAgg at WS ⊢
  clear h h0
  go_enter Try.func56, Try.ntmps56
  go_wp2_with fail
  refine CN.out.mono ?_
  rintro e w1 ⟨rfl, t1⟩
  have r1 := t1.heap R0.out (fun x => x)
  have c0 := cell_of_row w1 w.heap.size 0 _ 25 (0, 0) r1
  have c1 := cell_of_row w1 w.heap.size 1 _ 25 (0, 0) r1
  have c2 := cell_of_row w1 w.heap.size 2 _ 25 (0, 0) r1
  have c3 := cell_of_row w1 w.heap.size 3 _ 25 (0, 0) r1
  have T1 := hide (TA.out.trans t1)
  have hl : ¬ (10000 : Int) < (cnt L : Nat) := by have := HC.out; omega
  clear t1 r1 CN
  go_wp2_with fail
  refine (WS.out _ T1.out).mono ?_
  rintro e w2 ⟨t, rfl, ht, t2⟩
  have hl2 : ¬ (1048576 : Int) < (t : Nat) := by have := HC.out; have := HBY.out; omega
  have T2 := hide (T1.out.trans t2)
  clear t2 ht c0 c1 c2 c3
  go_wp2_with fail
  go_ret
  refine ⟨congrArg Ending.returned (congrArg Value.bool ?_), T2.out⟩
  first | rfl | (simp; omega)
theorem check_any (a : Option Addr) (n c next seq log : Nat) (L : List Lv) (w : World) (h : VerIn w a n L next seq log) :
    Calls Try.prog 42 #[verAgg a n c next seq log] w fun e w' => e = .returned (.int .i64 (chkV L next seq log)) ∧ Turns (fun _ => False) w w' := by
  have TA := hide ((Turns.refl (fun _ => False) w).alloc (.cells #[.slice a n c, .int .u64 (next : Nat), .int .u64 (seq : Nat), .int .u64 (log : Nat)] 25))
  have R0 := hide (heap_alloc_new w (.cells #[.slice a n c, .int .u64 (next : Nat), .int .u64 (seq : Nat), .int .u64 (log : Nat)] 25))
  have CW := hide (isWrong_any a n c next seq log L _ (h.levs.quiet TA.out) h.len (by have := h.cnt; omega) h.fit)
  have CL := hide (fun (u : World) (t : Turns (fun _ => False) w u) (h0 : wrongV L next seq log = false) => isLong_any a n c next seq log L u (h.quiet t) h0)
  have HV := hide (show chkV L next seq log = if wrongV L next seq log then 2 else 0 from rfl)
  unfold verAgg at *
  clear h
  generalize hV : wrongV L next seq log = V at *
  clear hV
  generalize chkV L next seq log = CV at *
  go_enter Try.func42, Try.ntmps42
  go_wp2_with fail
  refine CW.out.mono ?_
  rintro e w1 ⟨rfl, t1⟩
  have r1 := t1.heap R0.out (fun x => x)
  have c0 := cell_of_row w1 w.heap.size 0 _ 25 (0, 0) r1
  have c1 := cell_of_row w1 w.heap.size 1 _ 25 (0, 0) r1
  have c2 := cell_of_row w1 w.heap.size 2 _ 25 (0, 0) r1
  have c3 := cell_of_row w1 w.heap.size 3 _ 25 (0, 0) r1
  have T1 := hide (TA.out.trans t1)
  clear t1 r1 CW
  cases V
  · go_wp2_with fail
    refine (CL.out _ T1.out trivial).mono ?_
    rintro e w2 ⟨rfl, t2⟩
    have T2 := hide (T1.out.trans t2)
    clear t2
    go_wp2_with fail
    go_ret
    exact ⟨congrArg Ending.returned (by rw [HV.out]; rfl), T2.out⟩
  · go_wp2_with fail
    go_ret
    exact ⟨congrArg Ending.returned (by rw [HV.out]; rfl), T1.out⟩
end Go.Proofs.Ytkmcdjbadngfgaa
