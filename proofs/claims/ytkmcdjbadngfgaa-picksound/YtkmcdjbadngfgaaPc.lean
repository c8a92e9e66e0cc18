/-
  The scores of all levels, and which is due.
-/
import Derived.Test.YtkmcdjbadngfgaaPb
namespace Go.Proofs.Ytkmcdjbadngfgaa
open Go.RowKit
set_option maxRecDepth 100000
set_option maxHeartbeats 4000000
def ScoreP (LL : List (List Fl)) (next seq log : Nat) (t b f z : Int) : Int := if z < 0 ∨ 5 ≤ z ∨ (wrongVF LL next seq log || setBad t b f) = true then 0 else scoreP LL t b f z
theorem Score_any (a : Option Addr) (n c next seq log : Nat) (L : List Lv) (t b f z : Int) (w : World) (h : VerIn w a n L next seq log) :
    Calls Try.prog 9 #[verAgg a n c next seq log, setAgg t b f, .int .i64 z] w fun e w' => e = .returned (.int .i64 (ScoreP (flL L) next seq log t b f z)) ∧ Turns (fun _ => False) w w' := by
  have TA := hide (((Turns.refl (fun _ => False) w).alloc (.cells #[.slice a n c, .int .u64 (next : Nat), .int .u64 (seq : Nat), .int .u64 (log : Nat)] 25)).alloc (.cells #[.int .i64 t, .int .i64 b, .int .i64 f] 35))
  have R0 := hide (((Turns.refl (fun _ => False) (w.alloc (.cells #[.slice a n c, .int .u64 (next : Nat), .int .u64 (seq : Nat), .int .u64 (log : Nat)] 25))).alloc (.cells #[.int .i64 t, .int .i64 b, .int .i64 f] 35)).heap (heap_alloc_new w (.cells #[.slice a n c, .int .u64 (next : Nat), .int .u64 (seq : Nat), .int .u64 (log : Nat)] 25)) (fun x => x))
  have R1 := hide (heap_alloc_new (w.alloc (.cells #[.slice a n c, .int .u64 (next : Nat), .int .u64 (seq : Nat), .int .u64 (log : Nat)] 25)) (.cells #[.int .i64 t, .int .i64 b, .int .i64 f] 35))
  simp only [World.size_alloc] at R1
  have HS := hide (show ScoreP (flL L) next seq log t b f z = if z < 0 ∨ 5 ≤ z ∨ (wrongVF (flL L) next seq log || setBad t b f) = true then 0 else scoreP (flL L) t b f z from rfl)
  have CK := hide (fun (u : World) (tu : Turns (fun _ => False) w u) => pcheck_any a n c next seq log L t b f u (h.quiet tu))
  have SC := hide (fun (u : World) (tu : Turns (fun _ => False) w u) (hv : wrongVF (flL L) next seq log = false) (hs : setBad t b f = false) (h0 : 0 ≤ z) (h4 : z < 5) => score_any a n c next seq log L t b f z u (h.quiet tu) hv hs h0 h4)
  clear h
  generalize ScoreP (flL L) next seq log t b f z = RS at *
  generalize scoreP (flL L) t b f z = SV at *
  generalize wrongVF (flL L) next seq log = WV at *
  generalize setBad t b f = BD at *
  unfold verAgg setAgg at *
  by_cases z0 : z < 0
  · go_enter Try.func9, Try.ntmps9
    go_wp2_with fail
    go_ret
    exact ⟨by rw [HS.out, if_pos (.inl z0)]; rfl, TA.out⟩
  by_cases z5 : 5 ≤ z
  · go_enter Try.func9, Try.ntmps9
    go_wp2_with fail
    go_ret
    exact ⟨by rw [HS.out, if_pos (.inr (.inl z5))]; rfl, TA.out⟩
  · obtain ⟨ER, hER⟩ : ∃ r : Int, r = if (WV || BD) = true then 2 else 0 := ⟨_, rfl⟩
    rw [← hER] at CK
    have HER := hide hER
    clear hER
    go_enter Try.func9, Try.ntmps9
    go_wp2_with fail
    refine (CK.out _ TA.out).mono ?_
    rintro e w1 ⟨rfl, t1⟩
    have T1 := hide (TA.out.trans t1)
    have r0 := t1.heap R0.out (fun x => x)
    have r1 := t1.heap R1.out (fun x => x)
    have p0 := cell_of_row w1 w.heap.size 0 _ 25 (0, 0) r0
    have p1 := cell_of_row w1 w.heap.size 1 _ 25 (0, 0) r0
    have p2 := cell_of_row w1 w.heap.size 2 _ 25 (0, 0) r0
    have p3 := cell_of_row w1 w.heap.size 3 _ 25 (0, 0) r0
    have q0 := cell_of_row w1 (w.heap.size + 1) 0 _ 35 (0, 0) r1
    have q1 := cell_of_row w1 (w.heap.size + 1) 1 _ 35 (0, 0) r1
    have q2 := cell_of_row w1 (w.heap.size + 1) 2 _ 35 (0, 0) r1
    clear t1 r0 r1 CK
    cases hWB : (WV || BD) with
    | true =>
      rw [hWB, if_pos rfl] at HER
      obtain rfl : ER = 2 := HER.out
      have HR := hide (show RS = 0 by rw [HS.out, if_pos (.inr (.inr hWB))])
      clear HS hWB SC
      go_wp2_with fail
      go_ret
      exact ⟨by rw [HR.out]; rfl, T1.out⟩
    | false =>
      rw [hWB] at HER
      obtain rfl : ER = 0 := HER.out
      simp only [Bool.or_eq_false_iff] at hWB
      have HR := hide (show RS = SV by rw [HS.out, if_neg (by simp [hWB.1, hWB.2]; omega)])
      have SC := hide (SC.out w1 T1.out hWB.1 hWB.2 (by omega) (by omega))
      clear HS hWB
      go_wp2_with fail
      refine SC.out.mono ?_
      rintro e w2 ⟨rfl, t2⟩
      have T2 := hide (T1.out.trans t2)
      clear t2
      go_wp2_with fail
      go_ret
      exact ⟨by rw [HR.out]; rfl, T2.out⟩
end Go.Proofs.Ytkmcdjbadngfgaa
