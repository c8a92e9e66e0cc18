/-
  The scores of all levels, and which is due.
-/
import Derived.Test.YtkmcdjbadngfgaaPc
namespace Go.Proofs.Ytkmcdjbadngfgaa
open Go.RowKit
set_option maxRecDepth 100000
set_option maxHeartbeats 4000000
def sArr (s : Nat → Int) (k : Nat) : Array Value := #[.int .i64 (if 0 < k then s 0 else 0), .int .i64 (if 1 < k then s 1 else 0), .int .i64 (if 2 < k then s 2 else 0), .int .i64 (if 3 < k then s 3 else 0), .int .i64 (if 4 < k then s 4 else 0)]
theorem sArr_set (s : Nat → Int) (k : Nat) (h : k < 5) : (sArr s k).setIfInBounds k (.int .i64 (s k)) = sArr s (k + 1) := by
  obtain rfl | rfl | rfl | rfl | rfl : k = 0 ∨ k = 1 ∨ k = 2 ∨ k = 3 ∨ k = 4 := by omega
  all_goals rfl
theorem sArr_at (s : Nat → Int) (k : Nat) (h : k < 5) : (sArr s k)[k]? = some (.int .i64 0) := by
  obtain rfl | rfl | rfl | rfl | rfl : k = 0 ∨ k = 1 ∨ k = 2 ∨ k = 3 ∨ k = 4 := by omega
  all_goals rfl
theorem sz54 : (Try.prog.info? 54).map (·.size) = some 5 := by kernel_rfl
theorem scores_any (a : Option Addr) (n c next seq log : Nat) (L : List Lv) (t b f : Int) (w : World) (h : VerIn w a n L next seq log) (hv : wrongVF (flL L) next seq log = false) (hs : setBad t b f = false) :
    Calls Try.prog 28 #[verAgg a n c next seq log, setAgg t b f] w fun e w' => e = .returned (.agg #[.int .i64 (scoreP (flL L) t b f 0), .int .i64 (scoreP (flL L) t b f 1), .int .i64 (scoreP (flL L) t b f 2), .int .i64 (scoreP (flL L) t b f 3), .int .i64 (scoreP (flL L) t b f 4)]) ∧ Turns (fun _ => False) w w' := by
  have CS := hide (fun (k : Nat) (hk : k < 5) (u : World) (tu : Turns (fun _ => False) w u) => score_any a n c next seq log L t b f (k : Nat) u (h.quiet tu) hv hs (by omega) (by omega))
  generalize hS : (fun k : Nat => scoreP (flL L) t b f (k : Nat)) = S
  have e0 : scoreP (flL L) t b f 0 = S 0 := by rw [← hS]; rfl
  have e1 : scoreP (flL L) t b f 1 = S 1 := by rw [← hS]; rfl
  have e2 : scoreP (flL L) t b f 2 = S 2 := by rw [← hS]; rfl
  have e3 : scoreP (flL L) t b f 3 = S 3 := by rw [← hS]; rfl
  have e4 : scoreP (flL L) t b f 4 = S 4 := by rw [← hS]; rfl
  have eS : ∀ k : Nat, scoreP (flL L) t b f (k : Nat) = S k := fun k => by rw [← hS]
  simp only [eS] at CS
  rw [e0, e1, e2, e3, e4]
  clear e0 e1 e2 e3 e4 eS hS h hv hs
  unfold verAgg setAgg at *
  go_enter Try.func28, Try.ntmps28
  go_wp2_with fail
  generalize hP : w.heap.size = P at *
  obtain ⟨w1, hw1⟩ : ∃ u, u = (((w.alloc (.cells #[.slice a n c, .int .u64 (next : Nat), .int .u64 (seq : Nat), .int .u64 (log : Nat)] 25)).alloc (.cells #[.int .i64 t, .int .i64 b, .int .i64 f] 35)).alloc (.cells #[.int .i64 0, .int .i64 0, .int .i64 0, .int .i64 0, .int .i64 0] 54)).alloc (.cells #[.int .i64 0, .int .i64 0, .int .i64 0, .int .i64 0, .int .i64 0] 54) := ⟨_, rfl⟩
  rw [← hw1]
  have T1 := hide (show Turns (fun _ => False) w w1 by rw [hw1]; exact ((((Turns.refl _ w).alloc _).alloc _).alloc _).alloc _)
  have r0 : w1.heap[P]? = some (.cells #[.slice a n c, .int .u64 (next : Nat), .int .u64 (seq : Nat), .int .u64 (log : Nat)] 25 (0, 0)) := by
    rw [hw1, ← hP]; exact ((((Turns.refl (fun _ => False) _).alloc _).alloc _).alloc _).heap (heap_alloc_new w _) (fun x => x)
  have r1 : w1.heap[P + 1]? = some (.cells #[.int .i64 t, .int .i64 b, .int .i64 f] 35 (0, 0)) := by
    rw [hw1, ← hP, ← World.size_alloc]; exact (((Turns.refl (fun _ => False) _).alloc _).alloc _).heap (heap_alloc_new (w.alloc _) _) (fun x => x)
  have r2 : w1.heap[P + 2]? = some (.cells #[.int .i64 0, .int .i64 0, .int .i64 0, .int .i64 0, .int .i64 0] 54 (0, 0)) := by
    rw [hw1, ← hP, show w.heap.size + 2 = ((w.alloc (.cells #[.slice a n c, .int .u64 (next : Nat), .int .u64 (seq : Nat), .int .u64 (log : Nat)] 25)).alloc (.cells #[.int .i64 t, .int .i64 b, .int .i64 f] 35)).heap.size by simp only [World.size_alloc]]
    exact ((Turns.refl (fun _ => False) _).alloc _).heap (heap_alloc_new _ _) (fun x => x)
  have r3 : w1.heap[P + 3]? = some (.cells (sArr S 0) 54 (0, 0)) := by
    rw [hw1, ← hP, show w.heap.size + 3 = (((w.alloc (.cells #[.slice a n c, .int .u64 (next : Nat), .int .u64 (seq : Nat), .int .u64 (log : Nat)] 25)).alloc (.cells #[.int .i64 t, .int .i64 b, .int .i64 f] 35)).alloc (.cells #[.int .i64 0, .int .i64 0, .int .i64 0, .int .i64 0, .int .i64 0] 54)).heap.size by simp only [World.size_alloc]]
    exact heap_alloc_new _ _
  have R0 := hide r0
  have R1 := hide r1
  have R2 := hide r2
  have hlt := (Array.getElem?_eq_some_iff.1 r3).1
  have HP := hide (show w.heap.size ≤ P ∧ P + 3 < w1.heap.size from ⟨by omega, hlt⟩)
  clear hw1 hP r0 r1 r2 hlt
  go_loopw [7] (fun i wr => ∃ k : Nat, i = .int .i64 (k : Nat) ∧ k ≤ 5 ∧ wr.heap[P + 3]? = some (.cells (sArr S k) 54 (0, 0)) ∧ Turns (fun j => j = P + 3) w1 wr) (fun i _ => 5 - (intOf i).toNat)
  case atStart => exact ⟨0, rfl, by omega, r3, Turns.refl _ _⟩
  case round =>
    clear r3
    obtain ⟨k, rfl, hk, hrow, tr⟩ := hrel
    have TR := hide tr
    have HT := hide (show Turns (fun _ => False) w wr from T1.out.andThen tr fun j hj e => by have := HP.out; omega)
    have p0 := cell_of_row wr P 0 _ 25 (0, 0) (tr.heap R0.out (by omega))
    have p1 := cell_of_row wr P 1 _ 25 (0, 0) (tr.heap R0.out (by omega))
    have p2 := cell_of_row wr P 2 _ 25 (0, 0) (tr.heap R0.out (by omega))
    have p3 := cell_of_row wr P 3 _ 25 (0, 0) (tr.heap R0.out (by omega))
    have q0 := cell_of_row wr (P + 1) 0 _ 35 (0, 0) (tr.heap R1.out (by omega))
    have q1 := cell_of_row wr (P + 1) 1 _ 35 (0, 0) (tr.heap R1.out (by omega))
    have q2 := cell_of_row wr (P + 1) 2 _ 35 (0, 0) (tr.heap R1.out (by omega))
    clear tr
    by_cases hk5 : k < 5
    · have HROW := hide hrow
      clear hrow
      have CC := hide (CS.out k hk5 wr HT.out)
      have ik : (k : Int) < 5 := by omega
      have i0 : (0 : Int) ≤ k := by omega
      go_wp2_with fail
      refine CC.out.mono ?_
      rintro e w2 ⟨rfl, t2⟩
      have TK := hide (Tick.refl (t2.heap HROW.out (fun x => x)))
      have T2 := hide t2
      have hc : w2.cell? ⟨P + 3, k, none⟩ = some (.int .i64 0) := by rw [TK.out.cell k]; exact sArr_at S k hk5
      have hfz := TK.out.frozen k
      clear t2
      go_wp2_with fail
      go_roundw
      case rel => 
        have tk := TK.out.set k (.int .i64 (S k))
        rw [sArr_set S k hk5] at tk
        exact ⟨k + 1, by go_num, by omega, tk.1, (TR.out.trans (T2.out.mono fun _ _ x => x.elim)).trans (Turns.of_tick tk)⟩
      case measure => simp [intOf]; omega
    · obtain rfl : k = 5 := by omega
      have c0 : wr.cell? ⟨P + 1 + 1 + 1, 0, none⟩ = some (.int .i64 (S 0)) := cell_of_row wr (P + 3) 0 _ 54 (0, 0) hrow
      have c1 : wr.cell? ⟨P + 1 + 1 + 1, 1, none⟩ = some (.int .i64 (S 1)) := cell_of_row wr (P + 3) 1 _ 54 (0, 0) hrow
      have c2 : wr.cell? ⟨P + 1 + 1 + 1, 2, none⟩ = some (.int .i64 (S 2)) := cell_of_row wr (P + 3) 2 _ 54 (0, 0) hrow
      have c3 : wr.cell? ⟨P + 1 + 1 + 1, 3, none⟩ = some (.int .i64 (S 3)) := cell_of_row wr (P + 3) 3 _ 54 (0, 0) hrow
      have c4 : wr.cell? ⟨P + 1 + 1 + 1, 4, none⟩ = some (.int .i64 (S 4)) := cell_of_row wr (P + 3) 4 _ 54 (0, 0) hrow
      have R2' := hide (TR.out.heap R2.out (by omega))
      clear hrow p0 p1 p2 p3 q0 q1 q2
      go_wp2_with (refine wpList_store_row rfl 54 _ _ rfl _ _ rfl rfl _ _ R2'.out ?_ ?_ ?_ ?_; (exact sz54); (simp only [List.size_toArray, List.length_cons, List.length_nil]); (simp [Value.oneCell']))
      have tz : Turns (fun j => j = P + 2) wr (wr.setRow (P + 2) #[.int .i64 (S 0), .int .i64 (S 1), .int .i64 (S 2), .int .i64 (S 3), .int .i64 (S 4)]) := ⟨rfl, rfl, rfl, by simp, fun k _ hk => setRow_other _ _ _ _ hk⟩
      refine bodyPost_ret (v := .agg #[.int .i64 (S 0), .int .i64 (S 1), .int .i64 (S 2), .int .i64 (S 3), .int .i64 (S 4)]) ?_ rfl ?_
      · exact results_cell_row Try.results28 _ _ _ _ _ _ _ rfl (setRow_heap _ _ _ _ _ _ R2'.out) Try.underlying54 rfl sz54
      · exact ⟨rfl, HT.out.andThen tz fun j hj e => by have := HP.out; omega⟩
def idxOfI (l : List Int) (v : Int) : Int := if v ∈ l then ((l.findIdx fun x => x == v : Nat) : Int) else -1
theorem findIdx_at {l : List Int} {v : Int} {k : Nat} (h : l[k]? = some v) (hno : ∀ j, j < k → l[j]? ≠ some v) : idxOfI l v = (k : Int) := by
  unfold idxOfI
  have hk := (List.getElem?_eq_some_iff.1 h).1
  rw [if_pos (List.mem_of_getElem? h)]
  congr 1
  rw [List.findIdx_eq hk]
  refine ⟨by simp [(List.getElem?_eq_some_iff.1 h).2], fun j hj => ?_⟩
  have := hno j hj
  rw [List.getElem?_eq_getElem (by omega)] at this
  simpa using fun e => this (by rw [e])
theorem index_any (g n c : Nat) (l : List Int) (v : Int) (w : World) (hn : n = l.length) (hm : n ≤ 1000000) (h : ∀ k x, l[k]? = some x → w.cell? ⟨g, k, none⟩ = some (.int .i64 x)) :
    Calls Try.prog 44 #[.slice (some ⟨g, 0, none⟩) n c, .int .i64 v] w fun e w' => e = .returned (.int .i64 (idxOfI l v)) ∧ w' = w := by
  have HN := hide hn
  have H := hide h
  have HO := hide (show idxOfI l v = if v ∈ l then ((l.findIdx fun x => x == v : Nat) : Int) else -1 from rfl)
  have HF := hide (fun (k : Nat) (h1 : l[k]? = some v) h2 => findIdx_at (k := k) h1 h2)
  generalize idxOfI l v = R at *
  clear hn h
  go_enter Try.func44, Try.ntmps44
  go_wp2_with fail
  go_loopw [8] (fun i wr => ∃ k : Nat, i = .int .i64 (k : Nat) ∧ k ≤ n ∧ (∀ j, j < k → l[j]? ≠ some v) ∧ wr = w) (fun i _ => n - (intOf i).toNat)
  case atStart => exact ⟨0, rfl, Nat.zero_le _, fun j hj => by omega, rfl⟩
  case round =>
    obtain ⟨k, rfl, hk, hno, rfl⟩ := hrel
    have HNO := hide hno
    clear hno
    by_cases hkn : k < n
    · obtain ⟨y, hy⟩ : ∃ y, l[k]? = some y := ⟨_, List.getElem?_eq_getElem (by have := HN.out; omega)⟩
      have i1 : (k : Int) < n := by omega
      have i0 : (0 : Int) ≤ k := by omega
      have hc := H.out k y hy
      have HY := hide hy
      clear hy
      by_cases hv : v = y
      · subst hv
        go_wp2_with fail
        go_ret
        exact ⟨by rw [HF.out k HY.out HNO.out]; rfl, rfl⟩
      · go_wp2_with fail
        go_roundw
        case rel => 
          refine ⟨k + 1, by go_num, by omega, fun j hj => ?_, by first | rfl | trivial⟩
          rcases Nat.lt_or_ge j k with h | h
          · exact HNO.out j h
          · obtain rfl : j = k := by omega
            rw [HY.out]; exact fun e => hv (by cases e; rfl)
        case measure => simp [intOf]; omega
    · obtain rfl : k = n := by omega
      go_wp2_with fail
      go_ret
      refine ⟨?_, rfl⟩
      rw [HO.out, if_neg fun hm => ?_]
      · rfl
      · obtain ⟨j, hj⟩ := List.getElem?_of_mem hm
        exact HNO.out j (by have := HN.out; have := (List.getElem?_eq_some_iff.1 hj).1; omega) hj
end Go.Proofs.Ytkmcdjbadngfgaa
