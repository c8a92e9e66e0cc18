/-
  First; the law's files and edits.
-/
import Derived.Test.YtmmcikbedegigaaWc
import Derived.Lib.SlBytesConst
import Derived.Lib.ConvBytes
namespace Go.Proofs.Ytmmcikbedegigaa
open Go.RowKit Go.Shelf
set_option maxRecDepth 100000
set_option maxHeartbeats 4000000
/-- A text's bytes. -/
def bsOf (s : ByteArray) : List (BitVec 8) := s.data.toList.map fun u => BitVec.ofNat 8 u.toNat
theorem conv_new (s : ByteArray) (w : World) : ∃ c w', (convert 9 35 (.string s)).run Try.prog w = .ok (.slice (some ⟨w.heap.size, 0, none⟩) s.size c) w' ∧ Bytes w' (.slice (some ⟨w.heap.size, 0, none⟩) s.size c) (bsOf s) ∧ s.size ≤ c ∧ Below w.heap.size w w' := by
  refine ⟨_, _, Lib.run_convert_string_bytes w 9 35 5 s Try.underlying9 Try.underlying35 Try.underlying5, ⟨_, _, by simp [bsOf]; rfl, fun k hk => ⟨w.heap.size, 0, rfl, ?_⟩⟩, grownCap_ge _ _ _ _, ⟨rfl, rfl, rfl, by rw [Lib.bytesWorld_size]; omega, fun k hk => Lib.bytesWorld_at_old w 5 s k hk⟩⟩
  have hk' : k < s.data.toList.length := by simpa [bsOf] using hk
  rw [Nat.zero_add, Lib.bytesWorld_cell w 5 s k (by simpa using hk')]
  have h1 : s.data.toList.getD k 0 = s.data.toList[k] := by simp [List.getD, List.getElem?_eq_getElem hk']
  have h2 : (bsOf s).getD k 0 = BitVec.ofNat 8 (s.data.toList[k]).toNat := by
    simp only [bsOf, List.getD, List.getElem?_map, List.getElem?_eq_getElem hk', Option.map_some, Option.getD_some]
  rw [h1, h2]
  have := (s.data.toList[k]).toNat_lt
  congr 2
  simp only [BitVec.toNat_ofNat]
  omega
theorem bsOf_length (s : ByteArray) : (bsOf s).length = s.size := by simp [bsOf]
theorem file_any (no : Nat) (s t : ByteArray) (w : World) : Calls Try.prog 8 #[.int .u64 (no : Nat), .string s, .string t] w fun e w' => ∃ x : Tf, e = .returned x.agg ∧ x.f = ⟨no, 100, bsOf s, bsOf t, 1, 1⟩ ∧ FB w' x ∧ Turns (fun _ => False) w w' := by
  have n0 := heap_alloc_new w (.cells #[.int .u64 0, .int .i64 0, .slice none 0 0, .slice none 0 0, .int .i64 0, .int .u64 0] 37)
  have b0 := (Below.refl w.heap.size w).alloc (Nat.le_refl _) (.cells #[.int .u64 0, .int .i64 0, .slice none 0 0, .slice none 0 0, .int .i64 0, .int .u64 0] 37)
  obtain ⟨c1, w1, hc1, hy1, hcap1, b1⟩ := conv_new s (w.alloc (.cells #[.int .u64 0, .int .i64 0, .slice none 0 0, .slice none 0 0, .int .i64 0, .int .u64 0] 37))
  obtain ⟨c2, w2, hc2, hy2, _, b2⟩ := conv_new t w1
  have HN := hide (heap_keep b2 (heap_keep b1 n0))
  have HY1 := hide (hy1.below b2)
  have HY2 := hide hy2
  have hs1 := b1.size
  rw [World.size_alloc] at hc1 HY1 hs1
  have B2 := hide ((b0.trans (b1.mono b0.size)).trans (b2.mono (Nat.le_trans b0.size b1.size)))
  clear n0 b0 hy1 b1 hy2 b2
  go_enter Try.func8, Try.ntmps8
  go_wp2_with (refine wpList_store_row rfl 37 _ _ rfl _ _ rfl rfl _ _ HN.out ?_ ?_ ?_ ?_; (exact sz37); (simp only [List.size_toArray, List.length_cons, List.length_nil]); (simp [Value.oneCell']))
  have tr : Turns (fun j => j = w.heap.size) w2 (w2.setRow w.heap.size #[.int .u64 (no : Nat), .int .i64 100, .slice (some ⟨w.heap.size + 1, 0, none⟩) s.size c1, .slice (some ⟨w1.heap.size, 0, none⟩) t.size c2, .int .i64 1, .int .u64 1]) := ⟨rfl, rfl, rfl, by simp, fun k _ hk => setRow_other _ _ _ _ hk⟩
  refine bodyPost_ret (v := .agg #[.int .u64 (no : Nat), .int .i64 100, .slice (some ⟨w.heap.size + 1, 0, none⟩) s.size c1, .slice (some ⟨w1.heap.size, 0, none⟩) t.size c2, .int .i64 1, .int .u64 1]) ?_ rfl ?_
  · exact results_cell_row Try.results8 _ _ _ _ _ _ _ rfl (setRow_heap _ _ _ _ _ _ HN.out) Try.underlying37 rfl sz37
  · refine ⟨⟨some ⟨w.heap.size + 1, 0, none⟩, c1, some ⟨w1.heap.size, 0, none⟩, c2, ⟨no, 100, bsOf s, bsOf t, 1, 1⟩⟩, by simp only [Tf.agg, bsOf_length]; rfl, rfl, ⟨?_, ?_⟩, (Turns.of_below B2.out _).andThen tr fun j hj e => by omega⟩
    · simp only [bsOf_length]
      exact HY1.out.turns tr (fun a n c e => by cases e; show ¬ w.heap.size + 1 = w.heap.size; omega)
    · simp only [bsOf_length]
      exact HY2.out.turns tr (fun a n c e => by cases e; show ¬ w1.heap.size = w.heap.size; omega)
theorem sz33 : (Try.prog.info? 33).map (·.size) = some 5 := by kernel_rfl
theorem add1_any (en : Nat) (x : Tf) (w : World) (h : FB w x) (hen : en < 18446744073709551616) (hno : x.f.no < 18446744073709551616) (h1 : x.f.least.length ≤ 1000000) (h2 : x.f.most.length ≤ 1000000) :
    Calls Try.prog 7 #[.int .u64 (en : Nat), x.agg] w fun e w' => ∃ ga, e = .returned (edAgg none 0 0 (some ⟨ga, 0, none⟩) 1 1 en 0 0) ∧ EdIn w' none 0 (some ⟨ga, 0, none⟩) 1 [] [(1, x)] en 0 0 ∧ Turns (fun _ => False) w w' := by
  obtain ⟨la, lc, ma, mc, ⟨no, sz, ls, ms, en', sq⟩⟩ := x
  have T1 := hide ((((Turns.refl (fun _ => False) w).alloc (.cells #[.int .u64 (no : Nat), .int .i64 sz, .slice la ls.length lc, .slice ma ms.length mc, .int .i64 en', .int .u64 (sq : Nat)] 37)).alloc (.cells #[.slice none 0 0, .slice (some ⟨w.heap.size + 1 + 1, 0, none⟩) 1 1, .int .u64 (en : Nat), .int .u64 0, .int .u64 0] 33)).alloc (.cells #[.int .i64 1, .int .u64 (no : Nat), .int .i64 sz, .slice la ls.length lc, .slice ma ms.length mc, .int .i64 en', .int .u64 (sq : Nat)] 62))
  have N1 := ((Turns.refl (fun _ => False) ((w.alloc (.cells #[.int .u64 (no : Nat), .int .i64 sz, .slice la ls.length lc, .slice ma ms.length mc, .int .i64 en', .int .u64 (sq : Nat)] 37)).alloc (.cells #[.slice none 0 0, .slice (some ⟨w.heap.size + 1 + 1, 0, none⟩) 1 1, .int .u64 (en : Nat), .int .u64 0, .int .u64 0] 33))).alloc (.cells #[.int .i64 1, .int .u64 (no : Nat), .int .i64 sz, .slice la ls.length lc, .slice ma ms.length mc, .int .i64 en', .int .u64 (sq : Nat)] 62)).heap (heap_alloc_new (w.alloc (.cells #[.int .u64 (no : Nat), .int .i64 sz, .slice la ls.length lc, .slice ma ms.length mc, .int .i64 en', .int .u64 (sq : Nat)] 37)) (.cells #[.slice none 0 0, .slice (some ⟨w.heap.size + 1 + 1, 0, none⟩) 1 1, .int .u64 (en : Nat), .int .u64 0, .int .u64 0] 33)) (fun x => x)
  have N2 := heap_alloc_new ((w.alloc (.cells #[.int .u64 (no : Nat), .int .i64 sz, .slice la ls.length lc, .slice ma ms.length mc, .int .i64 en', .int .u64 (sq : Nat)] 37)).alloc (.cells #[.slice none 0 0, .slice (some ⟨w.heap.size + 1 + 1, 0, none⟩) 1 1, .int .u64 (en : Nat), .int .u64 0, .int .u64 0] 33)) (.cells #[.int .i64 1, .int .u64 (no : Nat), .int .i64 sz, .slice la ls.length lc, .slice ma ms.length mc, .int .i64 en', .int .u64 (sq : Nat)] 62)
  simp only [World.size_alloc] at N1 N2
  have HN1 := hide N1
  have HN2 := hide N2
  have HFB := hide h
  unfold Tf.agg
  simp only at *
  clear N1 N2 h
  go_enter Try.func7, Try.ntmps7
  go_wp2_with fail
  generalize hWF : ((w.alloc (.cells #[.int .u64 (no : Nat), .int .i64 sz, .slice la ls.length lc, .slice ma ms.length mc, .int .i64 en', .int .u64 (sq : Nat)] 37)).alloc (.cells #[.slice none 0 0, .slice (some ⟨w.heap.size + 1 + 1, 0, none⟩) 1 1, .int .u64 (en : Nat), .int .u64 0, .int .u64 0] 33)).alloc (.cells #[.int .i64 1, .int .u64 (no : Nat), .int .i64 sz, .slice la ls.length lc, .slice ma ms.length mc, .int .i64 en', .int .u64 (sq : Nat)] 62) = WF at *
  refine bodyPost_ret (v := .agg #[.slice none 0 0, .slice (some ⟨w.heap.size + 1 + 1, 0, none⟩) 1 1, .int .u64 (en : Nat), .int .u64 0, .int .u64 0]) ?_ rfl ?_
  · exact results_cell_row Try.results7 _ _ _ _ _ _ _ rfl HN1.out Try.underlying33 rfl sz33
  · refine ⟨w.heap.size + 1 + 1, rfl, ⟨fun k d hd => by simp at hd, rfl, by omega, fun k d hd => ?_, rfl, by omega, fun d hd => ?_, hen, by omega, by omega⟩, T1.out⟩
    · cases k with
      | zero =>
        obtain rfl : _ = d := by simpa using hd
        have hc : ∀ j, WF.cell? ⟨w.heap.size + 1 + 1, j, none⟩ = _ := fun j => cell_of_row WF (w.heap.size + 1 + 1) j _ 62 (0, 0) HN2.out
        refine ⟨⟨w.heap.size + 1 + 1, 0, rfl, hc 0, ⟨hc 1, hc 2, hc 3, hc 4, hc 5, hc 6⟩⟩, HFB.out.quiet T1.out⟩
      | succ k => simp at hd
    · obtain rfl := List.mem_singleton.1 hd
      exact ⟨hno, h1, h2⟩
theorem make5 (w : World) : (Instr.makeSlice 22 (.int .i64 5) (.int .i64 5)).run Try.prog w = .ok (.slice (some ⟨w.heap.size, 0, none⟩) 5 5) (w.alloc (.cells #[.slice none 0 0, .slice none 0 0, .slice none 0 0, .slice none 0 0, .slice none 0 0] 50)) := by
  have h := run_makeSlice w 22 50 Try.t50 _ Try.underlying22 info50 t50_zero .i64 .i64 5 5 (by omega) (by omega) (by rw [t50_size]; omega) (by rw [t50_bytes]; omega) (by omega)
  have e : madeCells (Value.slice none 0 0).cells (Int.toNat 5 * Try.t50.size) = #[.slice none 0 0, .slice none 0 0, .slice none 0 0, .slice none 0 0, .slice none 0 0] := by kernel_rfl
  rw [e] at h
  exact h
theorem first_any (w : World) : Calls Try.prog 6 #[] w fun e w' => ∃ G L, e = .returned (verAgg (some ⟨G, 0, none⟩) 5 5 1 0 0) ∧ VerIn w' (some ⟨G, 0, none⟩) 5 L 1 0 0 ∧ flL L = [[], [], [], [], []] ∧ Turns (fun _ => False) w w' := by
  have T1 := hide (((Turns.refl (fun _ => False) w).alloc (.cells #[.slice none 0 0, .int .u64 0, .int .u64 0, .int .u64 0] 25)).alloc (.cells #[.slice none 0 0, .slice none 0 0, .slice none 0 0, .slice none 0 0, .slice none 0 0] 50))
  have N1 := hide (((Turns.refl (fun _ => False) (w.alloc (.cells #[.slice none 0 0, .int .u64 0, .int .u64 0, .int .u64 0] 25))).alloc (.cells #[.slice none 0 0, .slice none 0 0, .slice none 0 0, .slice none 0 0, .slice none 0 0] 50)).heap (heap_alloc_new w _) (fun x => x))
  have N2 := hide (heap_alloc_new (w.alloc (.cells #[.slice none 0 0, .int .u64 0, .int .u64 0, .int .u64 0] 25)) (.cells #[.slice none 0 0, .slice none 0 0, .slice none 0 0, .slice none 0 0, .slice none 0 0] 50))
  have hmk := make5 (w.alloc (.cells #[.slice none 0 0, .int .u64 0, .int .u64 0, .int .u64 0] 25))
  simp only [World.size_alloc] at N2 hmk
  go_enter Try.func6, Try.ntmps6
  go_wp2_with (refine wpList_store_row rfl 25 _ _ rfl _ _ rfl rfl _ _ N1.out ?_ ?_ ?_ ?_; (exact sz25); (simp only [List.size_toArray, List.length_cons, List.length_nil]); (simp [Value.oneCell']))
  generalize hw2 : (w.alloc (.cells #[.slice none 0 0, .int .u64 0, .int .u64 0, .int .u64 0] 25)).alloc (.cells #[.slice none 0 0, .slice none 0 0, .slice none 0 0, .slice none 0 0, .slice none 0 0] 50) = w2 at *
  have tr : Turns (fun j => j = w.heap.size) w2 (w2.setRow w.heap.size #[.slice (some ⟨w.heap.size + 1, 0, none⟩) 5 5, .int .u64 1, .int .u64 0, .int .u64 0]) := ⟨rfl, rfl, rfl, by simp, fun k _ hk => setRow_other _ _ _ _ hk⟩
  refine bodyPost_ret (v := .agg #[.slice (some ⟨w.heap.size + 1, 0, none⟩) 5 5, .int .u64 1, .int .u64 0, .int .u64 0]) ?_ rfl ?_
  · exact results_cell_row Try.results6 _ _ _ _ _ _ _ rfl (setRow_heap _ _ _ _ _ _ N1.out) Try.underlying25 rfl sz25
  · have hG := tr.heap N2.out (show ¬ w.heap.size + 1 = w.heap.size by omega)
    have hc := fun j => cell_of_row _ (w.heap.size + 1) j _ 50 (0, 0) hG
    refine ⟨w.heap.size + 1, [⟨none, 0, []⟩, ⟨none, 0, []⟩, ⟨none, 0, []⟩, ⟨none, 0, []⟩, ⟨none, 0, []⟩], rfl, ⟨fun k x hx => ?_, rfl, by simp [cnt], by simp [byts], fun x hx y hy => ?_, by omega, by omega, by omega⟩, rfl, T1.out.andThen tr fun j hj e => by omega⟩
    · have hk := (List.getElem?_eq_some_iff.1 hx).1
      simp only [List.length_cons, List.length_nil] at hk
      have nil : ∀ u, Fils u none [] := fun u k x hx => by simp at hx
      rcases (by omega : k = 0 ∨ k = 1 ∨ k = 2 ∨ k = 3 ∨ k = 4) with rfl | rfl | rfl | rfl | rfl <;> (cases hx; exact ⟨⟨_, 0, rfl, hc _⟩, nil _⟩)
    · simp at hx
      rcases hx with rfl
      simp at hy
end Go.Proofs.Ytmmcikbedegigaa
