/-
  Which level is due; whether a version is at rest.
-/
import Derived.Test.YtkmcdjbadngfgaaPd
namespace Go.Proofs.Ytkmcdjbadngfgaa
open Go.RowKit
set_option maxRecDepth 100000
set_option maxHeartbeats 4000000
def bestOf (l : List Int) : Int := l.foldl max 0
theorem best_snoc (l : List Int) (x : Int) : bestOf (l ++ [x]) = max (bestOf l) x := by
  unfold bestOf
  rw [List.foldl_append]
  rfl
def dueP (l : List Int) : Int × Bool := if bestOf l < 100 then (0, false) else (idxOfI l (bestOf l), true)
theorem due_any (s0 s1 s2 s3 s4 : Int) (w : World) :
    Calls Try.prog 27 #[.agg #[.int .i64 s0, .int .i64 s1, .int .i64 s2, .int .i64 s3, .int .i64 s4]] w fun e w' => e = .returned (.tuple #[.int .i64 (dueP [s0, s1, s2, s3, s4]).1, .bool (dueP [s0, s1, s2, s3, s4]).2]) ∧ Turns (fun _ => False) w w' := by
  have TA := hide ((Turns.refl (fun _ => False) w).alloc (.cells #[.int .i64 s0, .int .i64 s1, .int .i64 s2, .int .i64 s3, .int .i64 s4] 54))
  have R0 := hide (heap_alloc_new w (.cells #[.int .i64 s0, .int .i64 s1, .int .i64 s2, .int .i64 s3, .int .i64 s4] 54))
  have HD := hide (show dueP [s0, s1, s2, s3, s4] = if bestOf [s0, s1, s2, s3, s4] < 100 then (0, false) else (idxOfI [s0, s1, s2, s3, s4] (bestOf [s0, s1, s2, s3, s4]), true) from rfl)
  have IX := hide (fun (g : Nat) (u : World) (hr : u.heap[g]? = some (.cells #[.int .i64 s0, .int .i64 s1, .int .i64 s2, .int .i64 s3, .int .i64 s4] 54 (0, 0))) => index_any g 5 5 [s0, s1, s2, s3, s4] (bestOf [s0, s1, s2, s3, s4]) u rfl (by omega) fun k x hx => by
    rw [cell_of_row u g k _ 54 (0, 0) hr]
    match k, hx with
    | 0, hx => cases hx; rfl
    | 1, hx => cases hx; rfl
    | 2, hx => cases hx; rfl
    | 3, hx => cases hx; rfl
    | 4, hx => cases hx; rfl
    | k + 5, hx => simp at hx)
  generalize dueP [s0, s1, s2, s3, s4] = DP at *
  go_enter Try.func27, Try.ntmps27
  go_wp2_with fail
  obtain ⟨w1, hw1⟩ : ∃ u, u = w.alloc (.cells #[.int .i64 s0, .int .i64 s1, .int .i64 s2, .int .i64 s3, .int .i64 s4] 54) := ⟨_, rfl⟩
  rw [← hw1] at TA R0 ⊢
  clear hw1
  generalize w.heap.size = P at *
  go_loopw [4, 8] (fun v i wr => ∃ k : Nat, i = .int .i64 (k : Nat) ∧ v = .int .i64 (bestOf ([s0, s1, s2, s3, s4].take k)) ∧ k ≤ 5 ∧ wr = w1) (fun _ i _ => 5 - (intOf i).toNat)
  case atStart => exact ⟨0, rfl, rfl, by omega, rfl⟩
  case round =>
    obtain ⟨k, rfl, rfl, hk, rfl⟩ := hrel
    by_cases hk5 : k < 5
    · have HB := hide (fun (x : Int) (hx : [s0, s1, s2, s3, s4][k]? = some x) => show bestOf ([s0, s1, s2, s3, s4].take (k + 1)) = max (bestOf ([s0, s1, s2, s3, s4].take k)) x by rw [List.take_add_one, hx]; exact best_snoc _ _)
      generalize bestOf ([s0, s1, s2, s3, s4].take k) = B at *
      obtain rfl | rfl | rfl | rfl | rfl : k = 0 ∨ k = 1 ∨ k = 2 ∨ k = 3 ∨ k = 4 := by omega
      · replace HB := hide (HB.out _ rfl)
        have hI : ∀ u, (Instr.index 54 (.agg #[.int .i64 s0, .int .i64 s1, .int .i64 s2, .int .i64 s3, .int .i64 s4]) (.int .i64 0)).run Try.prog u = .ok (.int .i64 s0) u := fun u => by kernel_rfl
        go_wp2_with fail
        go_roundw
        case rel => exact ⟨1, rfl, by rw [HB.out], by omega, by first | rfl | trivial⟩
        case measure => simp [intOf]
      · replace HB := hide (HB.out _ rfl)
        have hI : ∀ u, (Instr.index 54 (.agg #[.int .i64 s0, .int .i64 s1, .int .i64 s2, .int .i64 s3, .int .i64 s4]) (.int .i64 1)).run Try.prog u = .ok (.int .i64 s1) u := fun u => by kernel_rfl
        go_wp2_with fail
        go_roundw
        case rel => exact ⟨2, rfl, by rw [HB.out], by omega, by first | rfl | trivial⟩
        case measure => simp [intOf]
      · replace HB := hide (HB.out _ rfl)
        have hI : ∀ u, (Instr.index 54 (.agg #[.int .i64 s0, .int .i64 s1, .int .i64 s2, .int .i64 s3, .int .i64 s4]) (.int .i64 2)).run Try.prog u = .ok (.int .i64 s2) u := fun u => by kernel_rfl
        go_wp2_with fail
        go_roundw
        case rel => exact ⟨3, rfl, by rw [HB.out], by omega, by first | rfl | trivial⟩
        case measure => simp [intOf]
      · replace HB := hide (HB.out _ rfl)
        have hI : ∀ u, (Instr.index 54 (.agg #[.int .i64 s0, .int .i64 s1, .int .i64 s2, .int .i64 s3, .int .i64 s4]) (.int .i64 3)).run Try.prog u = .ok (.int .i64 s3) u := fun u => by kernel_rfl
        go_wp2_with fail
        go_roundw
        case rel => exact ⟨4, rfl, by rw [HB.out], by omega, by first | rfl | trivial⟩
        case measure => simp [intOf]
      · replace HB := hide (HB.out _ rfl)
        have hI : ∀ u, (Instr.index 54 (.agg #[.int .i64 s0, .int .i64 s1, .int .i64 s2, .int .i64 s3, .int .i64 s4]) (.int .i64 4)).run Try.prog u = .ok (.int .i64 s4) u := fun u => by kernel_rfl
        go_wp2_with fail
        go_roundw
        case rel => exact ⟨5, rfl, by rw [HB.out], by omega, by first | rfl | trivial⟩
        case measure => simp [intOf]
    · obtain rfl : k = 5 := by omega
      rw [show [s0, s1, s2, s3, s4].take 5 = [s0, s1, s2, s3, s4] from rfl]
      have IX := hide (IX.out P wr R0.out)
      generalize bestOf [s0, s1, s2, s3, s4] = B at *
      by_cases hb : B < 100
      · have HR := hide (show DP = (0, false) by rw [HD.out, if_pos hb])
        go_wp2_with fail
        go_ret2
        exact ⟨by rw [HR.out]; rfl, TA.out⟩
      · have HR := hide (show DP = (idxOfI [s0, s1, s2, s3, s4] B, true) by rw [HD.out, if_neg hb])
        go_wp2_with fail
        refine IX.out.mono ?_
        rintro e w2 ⟨rfl, rfl⟩
        go_wp2_with fail
        go_ret2
        exact ⟨by rw [HR.out]; rfl, TA.out⟩
def restP (LL : List (List Fl)) (next seq log : Nat) (t b f : Int) : Bool := !(wrongVF LL next seq log || setBad t b f) && !(dueP [scoreP LL t b f 0, scoreP LL t b f 1, scoreP LL t b f 2, scoreP LL t b f 3, scoreP LL t b f 4]).2
theorem rest_any (a : Option Addr) (n c next seq log : Nat) (L : List Lv) (t b f : Int) (w : World) (h : VerIn w a n L next seq log) :
    Calls Try.prog 12 #[verAgg a n c next seq log, setAgg t b f] w fun e w' => e = .returned (.bool (restP (flL L) next seq log t b f)) ∧ Turns (fun _ => False) w w' := by
  have TA := hide (((Turns.refl (fun _ => False) w).alloc (.cells #[.slice a n c, .int .u64 (next : Nat), .int .u64 (seq : Nat), .int .u64 (log : Nat)] 25)).alloc (.cells #[.int .i64 t, .int .i64 b, .int .i64 f] 35))
  have R0 := hide (((Turns.refl (fun _ => False) (w.alloc (.cells #[.slice a n c, .int .u64 (next : Nat), .int .u64 (seq : Nat), .int .u64 (log : Nat)] 25))).alloc (.cells #[.int .i64 t, .int .i64 b, .int .i64 f] 35)).heap (heap_alloc_new w (.cells #[.slice a n c, .int .u64 (next : Nat), .int .u64 (seq : Nat), .int .u64 (log : Nat)] 25)) (fun x => x))
  have R1 := hide (heap_alloc_new (w.alloc (.cells #[.slice a n c, .int .u64 (next : Nat), .int .u64 (seq : Nat), .int .u64 (log : Nat)] 25)) (.cells #[.int .i64 t, .int .i64 b, .int .i64 f] 35))
  simp only [World.size_alloc] at R1
  have HS := hide (show restP (flL L) next seq log t b f = (!(wrongVF (flL L) next seq log || setBad t b f) && !(dueP [scoreP (flL L) t b f 0, scoreP (flL L) t b f 1, scoreP (flL L) t b f 2, scoreP (flL L) t b f 3, scoreP (flL L) t b f 4]).2) from rfl)
  have CK := hide (fun (u : World) (tu : Turns (fun _ => False) w u) => pcheck_any a n c next seq log L t b f u (h.quiet tu))
  have SC := hide (fun (u : World) (tu : Turns (fun _ => False) w u) (hv : wrongVF (flL L) next seq log = false) (hs : setBad t b f = false) => scores_any a n c next seq log L t b f u (h.quiet tu) hv hs)
  clear h
  generalize restP (flL L) next seq log t b f = RS at *
  generalize scoreP (flL L) t b f 0 = s0 at *
  generalize scoreP (flL L) t b f 1 = s1 at *
  generalize scoreP (flL L) t b f 2 = s2 at *
  generalize scoreP (flL L) t b f 3 = s3 at *
  generalize scoreP (flL L) t b f 4 = s4 at *
  generalize wrongVF (flL L) next seq log = WV at *
  generalize setBad t b f = BD at *
  unfold verAgg setAgg at *
  obtain ⟨ER, hER⟩ : ∃ r : Int, r = if (WV || BD) = true then 2 else 0 := ⟨_, rfl⟩
  rw [← hER] at CK
  have HER := hide hER
  clear hER
  have DU := hide (due_any s0 s1 s2 s3 s4)
  generalize dueP [s0, s1, s2, s3, s4] = DP at *
  obtain ⟨dz, db⟩ := DP
  go_enter Try.func12, Try.ntmps12
  go_wp2_with fail
  refine (CK.out _ TA.out).mono ?_
  rintro e w1 ⟨rfl, t1⟩
  have T1 := hide (TA.out.trans t1)
  have r0 := t1.heap R0.out (fun x => x)
  have r1 := t1.heap R1.out (fun x => x)
  have p0 := cell_of_row w1 w.heap.size 0 _ 25 (0, 0) r0
  have p1 := cell_of_row w1 w.heap.size 1 _ 25 (0, 0) r0
  have p2 := cell_of_row w1 w.heap.size 2 _ 25 (0, 0) r0
  have p3 := cell_of_row w1 w.heap.size 3 _ 25 (0, 0) r0
  have q0 := cell_of_row w1 (w.heap.size + 1) 0 _ 35 (0, 0) r1
  have q1 := cell_of_row w1 (w.heap.size + 1) 1 _ 35 (0, 0) r1
  have q2 := cell_of_row w1 (w.heap.size + 1) 2 _ 35 (0, 0) r1
  clear t1 r0 r1 CK
  cases hWB : (WV || BD) with
  | true =>
    rw [hWB, if_pos rfl] at HER
    obtain rfl : ER = 2 := HER.out
    have HR := hide (show RS = false by rw [HS.out, hWB]; rfl)
    clear HS hWB SC
    go_wp2_with fail
    go_ret
    exact ⟨by rw [HR.out]; rfl, T1.out⟩
  | false =>
    rw [hWB] at HER
    obtain rfl : ER = 0 := HER.out
    have HR := hide (show RS = !db by rw [HS.out, hWB]; simp)
    simp only [Bool.or_eq_false_iff] at hWB
    have SC := hide (SC.out w1 T1.out hWB.1 hWB.2)
    clear HS hWB
    go_wp2_with fail
    refine SC.out.mono ?_
    rintro e w2 ⟨rfl, t2⟩
    have T2 := hide (T1.out.trans t2)
    clear t2
    go_wp2_with fail
    refine (DU.out _).mono ?_
    rintro e w3 ⟨rfl, t3⟩
    have T3 := hide (T2.out.trans t3)
    clear t3
    go_wp2_with fail
    go_ret
    exact ⟨by rw [HR.out]; rfl, T3.out⟩
end Go.Proofs.Ytkmcdjbadngfgaa
