/-
  The law's files, versions and setup.
-/
import Derived.Test.YtkmcdjbadngfgaaPl
import Derived.Lib.SlBytesConst
import Derived.Lib.ConvBytes
namespace Go.Proofs.Ytkmcdjbadngfgaa
open Go.RowKit
set_option maxRecDepth 100000
set_option maxHeartbeats 4000000
/-- A text's bytes. -/
def bsOf (s : ByteArray) : List (BitVec 8) := s.data.toList.map fun u => BitVec.ofNat 8 u.toNat
theorem conv_new (s : ByteArray) (w : World) : ∃ c w', (convert 9 27 (.string s)).run Try.prog w = .ok (.slice (some ⟨w.heap.size, 0, none⟩) s.size c) w' ∧ Bytes w' (.slice (some ⟨w.heap.size, 0, none⟩) s.size c) (bsOf s) ∧ s.size ≤ c ∧ Below w.heap.size w w' := by
  refine ⟨_, _, Lib.run_convert_string_bytes w 9 27 5 s Try.underlying9 Try.underlying27 Try.underlying5, ⟨_, _, by simp [bsOf]; rfl, fun k hk => ⟨w.heap.size, 0, rfl, ?_⟩⟩, grownCap_ge _ _ _ _, ⟨rfl, rfl, rfl, by rw [Lib.bytesWorld_size]; omega, fun k hk => Lib.bytesWorld_at_old w 5 s k hk⟩⟩
  have hk' : k < s.data.toList.length := by simpa [bsOf] using hk
  rw [Nat.zero_add, Lib.bytesWorld_cell w 5 s k (by simpa using hk')]
  have h1 : s.data.toList.getD k 0 = s.data.toList[k] := by simp [List.getD, List.getElem?_eq_getElem hk']
  have h2 : (bsOf s).getD k 0 = BitVec.ofNat 8 (s.data.toList[k]).toNat := by
    simp only [bsOf, List.getD, List.getElem?_map, List.getElem?_eq_getElem hk', Option.map_some, Option.getD_some]
  rw [h1, h2]
  have := (s.data.toList[k]).toNat_lt
  congr 2
  simp only [BitVec.toNat_ofNat]
  omega
theorem bsOf_length (s : ByteArray) : (bsOf s).length = s.size := by simp [bsOf]
theorem file_any (no : Nat) (sz : Int) (s t : ByteArray) (w : World) : Calls Try.prog 7 #[.int .u64 (no : Nat), .int .i64 sz, .string s, .string t] w fun e w' => ∃ x : Tf, e = .returned x.agg ∧ x.f = ⟨no, sz, bsOf s, bsOf t, 1, 1⟩ ∧ FB w' x ∧ Turns (fun _ => False) w w' := by
  have n0 := heap_alloc_new w (.cells #[.int .u64 0, .int .i64 0, .slice none 0 0, .slice none 0 0, .int .i64 0, .int .u64 0] 29)
  have b0 := (Below.refl w.heap.size w).alloc (Nat.le_refl _) (.cells #[.int .u64 0, .int .i64 0, .slice none 0 0, .slice none 0 0, .int .i64 0, .int .u64 0] 29)
  obtain ⟨c1, w1, hc1, hy1, hcap1, b1⟩ := conv_new s (w.alloc (.cells #[.int .u64 0, .int .i64 0, .slice none 0 0, .slice none 0 0, .int .i64 0, .int .u64 0] 29))
  obtain ⟨c2, w2, hc2, hy2, _, b2⟩ := conv_new t w1
  have HN := hide (heap_keep b2 (heap_keep b1 n0))
  have HY1 := hide (hy1.below b2)
  have HY2 := hide hy2
  have hs1 := b1.size
  rw [World.size_alloc] at hc1 HY1 hs1
  have B2 := hide ((b0.trans (b1.mono b0.size)).trans (b2.mono (Nat.le_trans b0.size b1.size)))
  clear n0 b0 hy1 b1 hy2 b2
  go_enter Try.func7, Try.ntmps7
  go_wp2_with (refine wpList_store_row rfl 29 _ _ rfl _ _ rfl rfl _ _ HN.out ?_ ?_ ?_ ?_; (exact sz37); (simp only [List.size_toArray, List.length_cons, List.length_nil]); (simp [Value.oneCell']))
  have tr : Turns (fun j => j = w.heap.size) w2 (w2.setRow w.heap.size #[.int .u64 (no : Nat), .int .i64 sz, .slice (some ⟨w.heap.size + 1, 0, none⟩) s.size c1, .slice (some ⟨w1.heap.size, 0, none⟩) t.size c2, .int .i64 1, .int .u64 1]) := ⟨rfl, rfl, rfl, by simp, fun k _ hk => setRow_other _ _ _ _ hk⟩
  refine bodyPost_ret (v := .agg #[.int .u64 (no : Nat), .int .i64 sz, .slice (some ⟨w.heap.size + 1, 0, none⟩) s.size c1, .slice (some ⟨w1.heap.size, 0, none⟩) t.size c2, .int .i64 1, .int .u64 1]) ?_ rfl ?_
  · exact results_cell_row Try.results7 _ _ _ _ _ _ _ rfl (setRow_heap _ _ _ _ _ _ HN.out) Try.underlying29 rfl sz37
  · refine ⟨⟨some ⟨w.heap.size + 1, 0, none⟩, c1, some ⟨w1.heap.size, 0, none⟩, c2, ⟨no, sz, bsOf s, bsOf t, 1, 1⟩⟩, by simp only [Tf.agg, bsOf_length]; rfl, rfl, ⟨?_, ?_⟩, (Turns.of_below B2.out _).andThen tr fun j hj e => by omega⟩
    · simp only [bsOf_length]
      exact HY1.out.turns tr (fun a n c e => by cases e; show ¬ w.heap.size + 1 = w.heap.size; omega)
    · simp only [bsOf_length]
      exact HY2.out.turns tr (fun a n c e => by cases e; show ¬ w1.heap.size = w.heap.size; omega)
theorem sz35 : (Try.prog.info? 35).map (·.size) = some 3 := by kernel_rfl
theorem sz25 : (Try.prog.info? 25).map (·.size) = some 4 := by kernel_rfl
theorem setup_any (w : World) : Calls Try.prog 10 #[] w fun e w' => e = .returned (setAgg 2 100 10) ∧ Turns (fun _ => False) w w' := by
  have R0 := hide (heap_alloc_new w (.cells #[.int .i64 0, .int .i64 0, .int .i64 0] 35))
  have T0 := hide ((Turns.refl (fun _ => False) w).alloc (.cells #[.int .i64 0, .int .i64 0, .int .i64 0] 35))
  unfold setAgg
  go_enter Try.func10, Try.ntmps10
  go_wp2_with (refine wpList_store_row rfl 35 _ _ rfl _ _ rfl rfl _ _ R0.out ?_ ?_ ?_ ?_; (exact sz35); (simp only [List.size_toArray, List.length_cons, List.length_nil]); (simp [Value.oneCell']))
  refine bodyPost_ret (v := .agg #[.int .i64 2, .int .i64 100, .int .i64 10]) ?_ rfl ?_
  · exact results_cell_row Try.results10 _ _ _ _ _ _ _ rfl (setRow_heap _ _ _ _ _ _ R0.out) Try.underlying35 rfl sz35
  · exact ⟨rfl, T0.out.andThen (turns_setRow _ _ _) fun j hj e => by omega⟩
theorem version_any (a0 a1 : Option Addr) (n0 n1 c0 c1 : Nat) (w : World) : Calls Try.prog 6 #[.slice a0 n0 c0, .slice a1 n1 c1] w fun e w' => ∃ g, e = .returned (verAgg (some ⟨g, 0, none⟩) 5 5 9 0 0) ∧ w'.heap[g]? = some (.cells #[.slice a0 n0 c0, .slice a1 n1 c1, .slice none 0 0, .slice none 0 0, .slice none 0 0] 31 (0, 0)) ∧ Turns (fun _ => False) w w' := by
  have T1 := hide (((Turns.refl (fun _ => False) w).alloc (.cells #[.slice none 0 0, .int .u64 0, .int .u64 0, .int .u64 0] 25)).alloc (.cells #[.slice a0 n0 c0, .slice a1 n1 c1, .slice none 0 0, .slice none 0 0, .slice none 0 0] 31))
  have N1 := hide (((Turns.refl (fun _ => False) (w.alloc (.cells #[.slice none 0 0, .int .u64 0, .int .u64 0, .int .u64 0] 25))).alloc (.cells #[.slice a0 n0 c0, .slice a1 n1 c1, .slice none 0 0, .slice none 0 0, .slice none 0 0] 31)).heap (heap_alloc_new w _) (fun x => x))
  have N2 := hide (heap_alloc_new (w.alloc (.cells #[.slice none 0 0, .int .u64 0, .int .u64 0, .int .u64 0] 25)) (.cells #[.slice a0 n0 c0, .slice a1 n1 c1, .slice none 0 0, .slice none 0 0, .slice none 0 0] 31))
  simp only [World.size_alloc] at N2
  unfold verAgg
  go_enter Try.func6, Try.ntmps6
  go_wp2_with (refine wpList_store_row rfl 25 _ _ rfl _ _ rfl rfl _ _ N1.out ?_ ?_ ?_ ?_; (exact sz25); (simp only [List.size_toArray, List.length_cons, List.length_nil]); (simp [Value.oneCell']))
  refine bodyPost_ret (v := .agg #[.slice (some ⟨w.heap.size + 1, 0, none⟩) 5 5, .int .u64 9, .int .u64 0, .int .u64 0]) ?_ rfl ?_
  · exact results_cell_row Try.results6 _ _ _ _ _ _ _ rfl (setRow_heap _ _ _ _ _ _ N1.out) Try.underlying25 rfl sz25
  · exact ⟨w.heap.size + 1, rfl, (turns_setRow _ _ _).heap N2.out (show ¬ w.heap.size + 1 = w.heap.size by omega), T1.out.andThen (turns_setRow _ _ _) fun j hj e => by omega⟩
/-- A version of two levels, in memory. -/
theorem two_in {w : World} {g : Nat} {a0 a1 : Option Addr} {c0 c1 : Nat} {l0 l1 : List Tf} (hg : w.heap[g]? = some (.cells #[.slice a0 l0.length c0, .slice a1 l1.length c1, .slice none 0 0, .slice none 0 0, .slice none 0 0] 31 (0, 0))) (h0 : Fils w a0 l0) (h1 : Fils w a1 l1) (hc : l0.length + l1.length ≤ 10) (hb : ∀ y ∈ l0 ++ l1, y.f.no < 100 ∧ y.f.least.length ≤ 10 ∧ y.f.most.length ≤ 10) :
    VerIn w (some ⟨g, 0, none⟩) 5 [⟨a0, c0, l0⟩, ⟨a1, c1, l1⟩, ⟨none, 0, []⟩, ⟨none, 0, []⟩, ⟨none, 0, []⟩] 9 0 0 := by
  have hc' := fun j => cell_of_row w g j _ 31 (0, 0) hg
  have hbl : ∀ l : List Tf, (∀ y ∈ l, y.f.no < 100 ∧ y.f.least.length ≤ 10 ∧ y.f.most.length ≤ 10) → (l.map keyB).sum ≤ l.length * 20 := by
    intro l
    induction l with
    | nil => intro _; simp
    | cons y r ih =>
      intro h
      have h1 := ih fun z hz => h z (List.mem_cons_of_mem _ hz)
      have h2 := h y List.mem_cons_self
      simp only [List.map_cons, List.sum_cons, List.length_cons, keyB]
      omega
  have hb0 := hbl l0 fun y hy => hb y (List.mem_append_left _ hy)
  have hb1 := hbl l1 fun y hy => hb y (List.mem_append_right _ hy)
  refine ⟨fun k x hx => ?_, rfl, by simp only [cnt, List.map_cons, List.map_nil, List.sum_cons, List.sum_nil, List.length_nil]; omega, by simp only [byts, List.map_cons, List.map_nil, List.sum_cons, List.sum_nil]; omega, fun x hx y hy => ?_, by omega, by omega, by omega⟩
  · have hk := (List.getElem?_eq_some_iff.1 hx).1
    simp only [List.length_cons, List.length_nil] at hk
    have nil : ∀ u, Fils u none [] := fun u k x hx => by simp at hx
    rcases (by omega : k = 0 ∨ k = 1 ∨ k = 2 ∨ k = 3 ∨ k = 4) with rfl | rfl | rfl | rfl | rfl
    · cases hx; exact ⟨⟨g, 0, rfl, hc' _⟩, h0⟩
    · cases hx; exact ⟨⟨g, 0, rfl, hc' _⟩, h1⟩
    · cases hx; exact ⟨⟨g, 0, rfl, hc' _⟩, nil _⟩
    · cases hx; exact ⟨⟨g, 0, rfl, hc' _⟩, nil _⟩
    · cases hx; exact ⟨⟨g, 0, rfl, hc' _⟩, nil _⟩
  · simp only [List.mem_cons, List.not_mem_nil, or_false] at hx
    rcases hx with rfl | rfl | rfl | rfl | rfl
    · have := hb y (List.mem_append_left _ hy); omega
    · have := hb y (List.mem_append_right _ hy); omega
    all_goals simp at hy
end Go.Proofs.Ytkmcdjbadngfgaa
