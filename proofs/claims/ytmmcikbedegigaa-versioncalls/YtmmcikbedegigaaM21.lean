import Derived.Test.YtmmcikbedegigaaM18
import Derived.Lib.SlBytesConst
import Derived.Lib.ConvBytes
/-
  First; the law's files and edits.
-/
namespace Go.Proofs.Ytmmcikbedegigaa
open Go.RowKit Go.Shelf
set_option maxRecDepth 100000
set_option maxHeartbeats 4000000
/-- A text's bytes. -/
def bsOf (s : ByteArray) : List (BitVec 8) := s.data.toList.map fun u => BitVec.ofNat 8 u.toNat
theorem conv_new (s : ByteArray) (w : World) : ∃ c w', (convert 9 35 (.string s)).run Try.prog w = .ok (.slice (some ⟨w.heap.size, 0, none⟩) s.size c) w' ∧ Bytes w' (.slice (some ⟨w.heap.size, 0, none⟩) s.size c) (bsOf s) ∧ s.size ≤ c ∧ Below w.heap.size w w' := by
  refine ⟨_, _, Lib.run_convert_string_bytes w 9 35 5 s Try.underlying9 Try.underlying35 Try.underlying5, ⟨_, _, by simp [bsOf]; rfl, fun k hk => ⟨w.heap.size, 0, rfl, ?_⟩⟩, grownCap_ge _ _ _ _, ⟨rfl, rfl, rfl, by rw [Lib.bytesWorld_size]; omega, fun k hk => Lib.bytesWorld_at_old w 5 s k hk⟩⟩
  have hk' : k < s.data.toList.length := by simpa [bsOf] using hk
  rw [Nat.zero_add, Lib.bytesWorld_cell w 5 s k (by simpa using hk')]
  have h1 : s.data.toList.getD k 0 = s.data.toList[k] := by simp [List.getD, List.getElem?_eq_getElem hk']
  have h2 : (bsOf s).getD k 0 = BitVec.ofNat 8 (s.data.toList[k]).toNat := by
    simp only [bsOf, List.getD, List.getElem?_map, List.getElem?_eq_getElem hk', Option.map_some, Option.getD_some]
  rw [h1, h2]
  have := (s.data.toList[k]).toNat_lt
  congr 2
  simp only [BitVec.toNat_ofNat]
  omega
theorem bsOf_length (s : ByteArray) : (bsOf s).length = s.size := by simp [bsOf]
theorem file_any (no : Nat) (s t : ByteArray) (w : World) : Calls Try.prog 8 #[.int .u64 (no : Nat), .string s, .string t] w fun e w' => ∃ x : Tf, e = .returned x.agg ∧ x.f = ⟨no, 100, bsOf s, bsOf t, 1, 1⟩ ∧ FB w' x ∧ Turns (fun _ => False) w w' := by
  have n0 := heap_alloc_new w (.cells #[.int .u64 0, .int .i64 0, .slice none 0 0, .slice none 0 0, .int .i64 0, .int .u64 0] 37)
  have b0 := (Below.refl w.heap.size w).alloc (Nat.le_refl _) (.cells #[.int .u64 0, .int .i64 0, .slice none 0 0, .slice none 0 0, .int .i64 0, .int .u64 0] 37)
  obtain ⟨c1, w1, hc1, hy1, hcap1, b1⟩ := conv_new s (w.alloc (.cells #[.int .u64 0, .int .i64 0, .slice none 0 0, .slice none 0 0, .int .i64 0, .int .u64 0] 37))
  obtain ⟨c2, w2, hc2, hy2, _, b2⟩ := conv_new t w1
  have HN := hide (heap_keep b2 (heap_keep b1 n0))
  have HY1 := hide (hy1.below b2)
  have HY2 := hide hy2
  have hs1 := b1.size
  rw [World.size_alloc] at hc1 HY1 hs1
  have B2 := hide ((b0.trans (b1.mono b0.size)).trans (b2.mono (Nat.le_trans b0.size b1.size)))
  clear n0 b0 hy1 b1 hy2 b2
  go_enter Try.func8, Try.ntmps8
  go_wp2_with (refine wpList_store_row rfl 37 _ _ rfl _ _ rfl rfl _ _ HN.out ?_ ?_ ?_ ?_; (exact sz37); (simp only [List.size_toArray, List.length_cons, List.length_nil]); (simp [Value.oneCell']))
  have tr : Turns (fun j => j = w.heap.size) w2 (w2.setRow w.heap.size #[.int .u64 (no : Nat), .int .i64 100, .slice (some ⟨w.heap.size + 1, 0, none⟩) s.size c1, .slice (some ⟨w1.heap.size, 0, none⟩) t.size c2, .int .i64 1, .int .u64 1]) := ⟨rfl, rfl, rfl, by simp, fun k _ hk => setRow_other _ _ _ _ hk⟩
  refine bodyPost_ret (v := .agg #[.int .u64 (no : Nat), .int .i64 100, .slice (some ⟨w.heap.size + 1, 0, none⟩) s.size c1, .slice (some ⟨w1.heap.size, 0, none⟩) t.size c2, .int .i64 1, .int .u64 1]) ?_ rfl ?_
  · exact results_cell_row Try.results8 _ _ _ _ _ _ _ rfl (setRow_heap _ _ _ _ _ _ HN.out) Try.underlying37 rfl sz37
  · refine ⟨⟨some ⟨w.heap.size + 1, 0, none⟩, c1, some ⟨w1.heap.size, 0, none⟩, c2, ⟨no, 100, bsOf s, bsOf t, 1, 1⟩⟩, by simp only [Tf.agg, bsOf_length]; rfl, rfl, ⟨?_, ?_⟩, (Turns.of_below B2.out _).andThen tr fun j hj e => by omega⟩
    · simp only [bsOf_length]
      exact HY1.out.turns tr (fun a n c e => by cases e; show ¬ w.heap.size + 1 = w.heap.size; omega)
    · simp only [bsOf_length]
      exact HY2.out.turns tr (fun a n c e => by cases e; show ¬ w1.heap.size = w.heap.size; omega)
theorem sz33 : (Try.prog.info? 33).map (·.size) = some 5 := by kernel_rfl
theorem add1_any (en : Nat) (x : Tf) (w : World) (h : FB w x) (hen : en < 18446744073709551616) (hno : x.f.no < 18446744073709551616) (h1 : x.f.least.length ≤ 1000000) (h2 : x.f.most.length ≤ 1000000) :
    Calls Try.prog 7 #[.int .u64 (en : Nat), x.agg] w fun e w' => ∃ ga, e = .returned (edAgg none 0 0 (some ⟨ga, 0, none⟩) 1 1 en 0 0) ∧ EdIn w' none 0 (some ⟨ga, 0, none⟩) 1 [] [(1, x)] en 0 0 ∧ Turns (fun _ => False) w w' := by
  obtain ⟨la, lc, ma, mc, ⟨no, sz, ls, ms, en', sq⟩⟩ := x
  have T1 := hide ((((Turns.refl (fun _ => False) w).alloc (.cells #[.int .u64 (no : Nat), .int .i64 sz, .slice la ls.length lc, .slice ma ms.length mc, .int .i64 en', .int .u64 (sq : Nat)] 37)).alloc (.cells #[.slice none 0 0, .slice (some ⟨w.heap.size + 1 + 1, 0, none⟩) 1 1, .int .u64 (en : Nat), .int .u64 0, .int .u64 0] 33)).alloc (.cells #[.int .i64 1, .int .u64 (no : Nat), .int .i64 sz, .slice la ls.length lc, .slice ma ms.length mc, .int .i64 en', .int .u64 (sq : Nat)] 62))
  have N1 := ((Turns.refl (fun _ => False) ((w.alloc (.cells #[.int .u64 (no : Nat), .int .i64 sz, .slice la ls.length lc, .slice ma ms.length mc, .int .i64 en', .int .u64 (sq : Nat)] 37)).alloc (.cells #[.slice none 0 0, .slice (some ⟨w.heap.size + 1 + 1, 0, none⟩) 1 1, .int .u64 (en : Nat), .int .u64 0, .int .u64 0] 33))).alloc (.cells #[.int .i64 1, .int .u64 (no : Nat), .int .i64 sz, .slice la ls.length lc, .slice ma ms.length mc, .int .i64 en', .int .u64 (sq : Nat)] 62)).heap (heap_alloc_new (w.alloc (.cells #[.int .u64 (no : Nat), .int .i64 sz, .slice la ls.length lc, .slice ma ms.length mc, .int .i64 en', .int .u64 (sq : Nat)] 37)) (.cells #[.slice none 0 0, .slice (some ⟨w.heap.size + 1 + 1, 0, none⟩) 1 1, .int .u64 (en : Nat), .int .u64 0, .int .u64 0] 33)) (fun x => x)
  have N2 := heap_alloc_new ((w.alloc (.cells #[.int .u64 (no : Nat), .int .i64 sz, .slice la ls.length lc, .slice ma ms.length mc, .int .i64 en', .int .u64 (sq : Nat)] 37)).alloc (.cells #[.slice none 0 0, .slice (some ⟨w.heap.size + 1 + 1, 0, none⟩) 1 1, .int .u64 (en : Nat), .int .u64 0, .int .u64 0] 33)) (.cells #[.int .i64 1, .int .u64 (no : Nat), .int .i64 sz, .slice la ls.length lc, .slice ma ms.length mc, .int .i64 en', .int .u64 (sq : Nat)] 62)
  simp only [World.size_alloc] at N1 N2
  have HN1 := hide N1
  have HN2 := hide N2
  have HFB := hide h
  unfold Tf.agg
  simp only at *
  clear N1 N2 h
  go_enter Try.func7, Try.ntmps7
  go_wp2_with fail
  generalize hWF : ((w.alloc (.cells #[.int .u64 (no : Nat), .int .i64 sz, .slice la ls.length lc, .slice ma ms.length mc, .int .i64 en', .int .u64 (sq : Nat)] 37)).alloc (.cells #[.slice none 0 0, .slice (some ⟨w.heap.size + 1 + 1, 0, none⟩) 1 1, .int .u64 (en : Nat), .int .u64 0, .int .u64 0] 33)).alloc (.cells #[.int .i64 1, .int .u64 (no : Nat), .int .i64 sz, .slice la ls.length lc, .slice ma ms.length mc, .int .i64 en', .int .u64 (sq : Nat)] 62) = WF at *
  refine bodyPost_ret (v := .agg #[.slice none 0 0, .slice (some ⟨w.heap.size + 1 + 1, 0, none⟩) 1 1, .int .u64 (en : Nat), .int .u64 0, .int .u64 0]) ?_ rfl ?_
  · exact results_cell_row Try.results7 _ _ _ _ _ _ _ rfl HN1.out Try.underlying33 rfl sz33
  · refine ⟨w.heap.size + 1 + 1, rfl, ⟨fun k d hd => by simp at hd, rfl, by omega, fun k d hd => ?_, rfl, by omega, fun d hd => ?_, hen, by omega, by omega⟩, T1.out⟩
    · cases k with
      | zero =>
        obtain rfl : _ = d := by simpa using hd
        have hc : ∀ j, WF.cell? ⟨w.heap.size + 1 + 1, j, none⟩ = _ := fun j => cell_of_row WF (w.heap.size + 1 + 1) j _ 62 (0, 0) HN2.out
        refine ⟨⟨w.heap.size + 1 + 1, 0, rfl, hc 0, ⟨hc 1, hc 2, hc 3, hc 4, hc 5, hc 6⟩⟩, HFB.out.quiet T1.out⟩
      | succ k => simp at hd
    · obtain rfl := List.mem_singleton.1 hd
      exact ⟨hno, h1, h2⟩
theorem make5 (w : World) : (Instr.makeSlice 22 (.int .i64 5) (.int .i64 5)).run Try.prog w = .ok (.slice (some ⟨w.heap.size, 0, none⟩) 5 5) (w.alloc (.cells #[.slice none 0 0, .slice none 0 0, .slice none 0 0, .slice none 0 0, .slice none 0 0] 50)) := by
  have h := run_makeSlice w 22 50 Try.t50 _ Try.underlying22 info50 t50_zero .i64 .i64 5 5 (by omega) (by omega) (by rw [t50_size]; omega) (by rw [t50_bytes]; omega) (by omega)
  have e : madeCells (Value.slice none 0 0).cells (Int.toNat 5 * Try.t50.size) = #[.slice none 0 0, .slice none 0 0, .slice none 0 0, .slice none 0 0, .slice none 0 0] := by kernel_rfl
  rw [e] at h
  exact h
theorem first_any (w : World) : Calls Try.prog 6 #[] w fun e w' => ∃ G L, e = .returned (verAgg (some ⟨G, 0, none⟩) 5 5 1 0 0) ∧ VerIn w' (some ⟨G, 0, none⟩) 5 L 1 0 0 ∧ flL L = [[], [], [], [], []] ∧ Turns (fun _ => False) w w' := by
  have T1 := hide (((Turns.refl (fun _ => False) w).alloc (.cells #[.slice none 0 0, .int .u64 0, .int .u64 0, .int .u64 0] 25)).alloc (.cells #[.slice none 0 0, .slice none 0 0, .slice none 0 0, .slice none 0 0, .slice none 0 0] 50))
  have N1 := hide (((Turns.refl (fun _ => False) (w.alloc (.cells #[.slice none 0 0, .int .u64 0, .int .u64 0, .int .u64 0] 25))).alloc (.cells #[.slice none 0 0, .slice none 0 0, .slice none 0 0, .slice none 0 0, .slice none 0 0] 50)).heap (heap_alloc_new w _) (fun x => x))
  have N2 := hide (heap_alloc_new (w.alloc (.cells #[.slice none 0 0, .int .u64 0, .int .u64 0, .int .u64 0] 25)) (.cells #[.slice none 0 0, .slice none 0 0, .slice none 0 0, .slice none 0 0, .slice none 0 0] 50))
  have hmk := make5 (w.alloc (.cells #[.slice none 0 0, .int .u64 0, .int .u64 0, .int .u64 0] 25))
  simp only [World.size_alloc] at N2 hmk
  go_enter Try.func6, Try.ntmps6
  go_wp2_with (refine wpList_store_row rfl 25 _ _ rfl _ _ rfl rfl _ _ N1.out ?_ ?_ ?_ ?_; (exact sz25); (simp only [List.size_toArray, List.length_cons, List.length_nil]); (simp [Value.oneCell']))
  generalize hw2 : (w.alloc (.cells #[.slice none 0 0, .int .u64 0, .int .u64 0, .int .u64 0] 25)).alloc (.cells #[.slice none 0 0, .slice none 0 0, .slice none 0 0, .slice none 0 0, .slice none 0 0] 50) = w2 at *
  have tr : Turns (fun j => j = w.heap.size) w2 (w2.setRow w.heap.size #[.slice (some ⟨w.heap.size + 1, 0, none⟩) 5 5, .int .u64 1, .int .u64 0, .int .u64 0]) := ⟨rfl, rfl, rfl, by simp, fun k _ hk => setRow_other _ _ _ _ hk⟩
  refine bodyPost_ret (v := .agg #[.slice (some ⟨w.heap.size + 1, 0, none⟩) 5 5, .int .u64 1, .int .u64 0, .int .u64 0]) ?_ rfl ?_
  · exact results_cell_row Try.results6 _ _ _ _ _ _ _ rfl (setRow_heap _ _ _ _ _ _ N1.out) Try.underlying25 rfl sz25
  · have hG := tr.heap N2.out (show ¬ w.heap.size + 1 = w.heap.size by omega)
    have hc := fun j => cell_of_row _ (w.heap.size + 1) j _ 50 (0, 0) hG
    refine ⟨w.heap.size + 1, [⟨none, 0, []⟩, ⟨none, 0, []⟩, ⟨none, 0, []⟩, ⟨none, 0, []⟩, ⟨none, 0, []⟩], rfl, ⟨fun k x hx => ?_, rfl, by simp [cnt], by simp [byts], fun x hx y hy => ?_, by omega, by omega, by omega⟩, rfl, T1.out.andThen tr fun j hj e => by omega⟩
    · have hk := (List.getElem?_eq_some_iff.1 hx).1
      simp only [List.length_cons, List.length_nil] at hk
      have nil : ∀ u, Fils u none [] := fun u k x hx => by simp at hx
      rcases (by omega : k = 0 ∨ k = 1 ∨ k = 2 ∨ k = 3 ∨ k = 4) with rfl | rfl | rfl | rfl | rfl <;> (cases hx; exact ⟨⟨_, 0, rfl, hc _⟩, nil _⟩)
    · simp at hx
      rcases hx with rfl
      simp at hy
end Go.Proofs.Ytmmcikbedegigaa

/-
  What an edit makes of a version is one.
-/
namespace Go.Proofs.Ytmmcikbedegigaa
open Go.RowKit
set_option maxRecDepth 100000
set_option maxHeartbeats 4000000
theorem cmpB_trans {a b c : List (BitVec 8)} (h : cmpB a b < 0) (k : cmpB b c < 0) : cmpB a c < 0 := by
  have h1 : cmpB a b = -1 := by rcases cmpB_vals a b with h | h | h <;> omega
  have h2 : cmpB b c = -1 := by rcases cmpB_vals b c with h | h | h <;> omega
  have := cmpB_lt h1 h2
  omega
theorem cmpB_le_lt {a b c : List (BitVec 8)} (h : cmpB a b ≤ 0) (k : cmpB b c < 0) : cmpB a c < 0 := by
  rcases cmpB_vals a b with e | e | e
  · exact cmpB_trans (by omega) k
  · rw [(cmpB_zero a b).1 e]; exact k
  · omega
theorem cmpF_trans {lev : Nat} {a b c : Fl} (h : cmpF lev a b < 0) (k : cmpF lev b c < 0) : cmpF lev a c < 0 := by
  unfold cmpF cmpN at *
  by_cases hl : lev = 0
  · simp only [hl, if_true] at *; split at h <;> split at k <;> (try split at h) <;> (try split at k) <;> split <;> (try split) <;> omega
  · simp only [hl, if_false] at *; exact cmpB_trans h k
theorem ahead_lt {lev : Nat} {a b : Fl} (h : aheadF lev a b = true) (hw : wrongF a = false) : cmpF lev a b < 0 := by
  unfold aheadF at h
  unfold cmpF cmpN
  by_cases hl : lev = 0
  · simp only [hl, if_true, decide_eq_true_eq] at *; rw [if_pos h]; omega
  · simp only [hl, if_false, decide_eq_true_eq] at *
    obtain ⟨_, _, _, _, _, _, _, _, _, _, h11⟩ := wrongF_false hw
    exact cmpB_le_lt h11 h
theorem ordF_strict (lev : Nat) : ∀ l : List Fl, ordF lev l = true → (∀ x ∈ l, wrongF x = false) → l.Pairwise fun x y => cmpF lev x y < 0
  | [], _, _ => .nil
  | [_], _, _ => by simp
  | a :: b :: r, h, hw => by
    unfold ordF at h
    rw [Bool.and_eq_true] at h
    have ih := ordF_strict lev (b :: r) h.2 fun x hx => hw x (List.mem_cons_of_mem _ hx)
    have hab := ahead_lt h.1 (hw a (by simp))
    refine List.pairwise_cons.2 ⟨fun z hz => ?_, ih⟩
    rcases List.mem_cons.1 hz with rfl | hz
    · exact hab
    · exact cmpF_trans hab ((List.pairwise_cons.1 ih).1 z hz)
theorem sorted_pair {lev : Nat} {l : List Fl} (h : sortedF lev l) : l.Pairwise fun x y => ¬ cmpF lev y x < 0 := by
  rw [List.pairwise_iff_getElem]
  intro i j hi hj hij
  exact h i j _ _ hij (List.getElem?_eq_getElem hi) (List.getElem?_eq_getElem hj)
theorem one_order (lt : Fl → Fl → Prop) : ∀ l1 l2 : List Fl, l1.Pairwise lt → l2.Pairwise (fun x y => ¬ lt y x) → l1.Perm l2 → l1 = l2
  | [], l2, _, _, hp => hp.nil_eq
  | a :: r, [], _, _, hp => by have := hp.length_eq; simp at this
  | a :: r, b :: s, h1, h2, hp => by
    have hab : a = b := by
      by_cases e : a = b
      · exact e
      · have hb : b ∈ r := by
          have := hp.mem_iff.2 (List.mem_cons_self (a := b) (l := s))
          rcases List.mem_cons.1 this with e' | h
          · exact absurd e'.symm e
          · exact h
        have ha : a ∈ s := by
          have := hp.mem_iff.1 (List.mem_cons_self (a := a) (l := r))
          rcases List.mem_cons.1 this with e' | h
          · exact absurd e' e
          · exact h
        exact absurd ((List.pairwise_cons.1 h1).1 b hb) ((List.pairwise_cons.1 h2).1 a ha)
    subst hab
    rw [one_order lt r s (List.pairwise_cons.1 h1).2 (List.pairwise_cons.1 h2).2 (List.perm_cons a |>.1 hp)]
theorem wrongVF_lev {LL : List (List Fl)} {next seq log : Nat} (h : wrongVF LL next seq log = false) {k : Nat} {l : List Fl} (hl : LL[k]? = some l) : wrongLF next k l = false := by
  unfold wrongVF at h
  simp only [Bool.or_eq_false_iff] at h
  have := List.any_eq_false.1 h.1.2 (l, k) (List.mem_zipIdx_iff_getElem?.2 hl)
  simpa using this
theorem comes_one {LL : List (List Fl)} {A : List AddF} {X Y : List (List Fl)} {en es el : Nat} (hl : LL.length = 5) (hx : Comes LL A X) (hy : Comes LL A Y) (hw : wrongVF X en es el = false) : X = Y := by
  apply List.ext_getElem?
  intro k
  by_cases hk : k < 5
  · obtain ⟨l, hl'⟩ : ∃ l, LL[k]? = some l := ⟨_, List.getElem?_eq_getElem (by omega)⟩
    obtain ⟨x, hx'⟩ : ∃ l, X[k]? = some l := ⟨_, List.getElem?_eq_getElem (by rw [hx.1]; omega)⟩
    obtain ⟨y, hy'⟩ : ∃ l, Y[k]? = some l := ⟨_, List.getElem?_eq_getElem (by rw [hy.1]; omega)⟩
    have h1 := hx.2 k l x hl' hx'
    have h2 := hy.2 k l y hl' hy'
    have h3 := wrongVF_lev hw hx'
    unfold wrongLF at h3
    simp only [Bool.or_eq_false_iff, Bool.not_eq_false'] at h3
    have h4 := ordF_strict k x h3.2 fun z hz => by have := List.any_eq_false.1 h3.1.1 z hz; simpa using this
    rw [hx', hy', one_order _ x y h4 (sorted_pair h2.2) (h1.1.trans h2.1.symm)]
  · rw [List.getElem?_eq_none (by rw [hx.1]; omega), List.getElem?_eq_none (by rw [hy.1]; omega)]
theorem len_of_ok {LL : List (List Fl)} {next seq log : Nat} (h : wrongVF LL next seq log = false) : LL.length = 5 := by
  unfold wrongVF at h
  simp only [Bool.or_eq_false_iff, decide_eq_false_iff_not] at h
  omega
theorem ApplyR.one {LL : List (List Fl)} {next seq log : Nat} {D : List (Int × Nat)} {A : List AddF} {en es el : Nat} {r r' : Option (List (List Fl))} {e e' : Int} (h : ApplyR LL next seq log D A en es el r e) (h' : ApplyR LL next seq log D A en es el r' e') : r = r' ∧ e = e' := by
  rcases h with ⟨a, rfl, rfl⟩ | ⟨a, h⟩
  · rcases h' with ⟨b, rfl, rfl⟩ | ⟨b, _⟩
    · exact ⟨rfl, rfl⟩
    · rw [a] at b; cases b
  rcases h' with ⟨b, _⟩ | ⟨_, h'⟩
  · rw [a] at b; cases b
  rcases h with ⟨d, rfl, rfl⟩ | ⟨m, d, h⟩
  · rcases h' with ⟨_, rfl, rfl⟩ | ⟨m', d', _⟩
    · exact ⟨rfl, rfl⟩
    · rw [d] at d'; cases d'
  rcases h' with ⟨d', _⟩ | ⟨m', d', h'⟩
  · rw [d] at d'; cases d'
  rw [d] at d'
  cases d'
  rcases h with ⟨o, rfl, rfl⟩ | ⟨o, h⟩
  · rcases h' with ⟨_, rfl, rfl⟩ | ⟨o', _⟩
    · exact ⟨rfl, rfl⟩
    · rw [o] at o'; cases o'
  rcases h' with ⟨o', _⟩ | ⟨_, h'⟩
  · rw [o] at o'; cases o'
  rcases h with ⟨g, rfl, rfl⟩ | ⟨g, X, hX, h⟩
  · rcases h' with ⟨_, rfl, rfl⟩ | ⟨g', _⟩
    · exact ⟨rfl, rfl⟩
    · rw [g] at g'; cases g'
  rcases h' with ⟨g', _⟩ | ⟨_, Y, hY, h'⟩
  · rw [g] at g'; cases g'
  have hl : (LL.map (List.filter (keepF m))).length = 5 := by rw [List.length_map]; exact len_of_ok a
  rcases h with ⟨p, rfl, rfl⟩ | ⟨p, rfl, rfl⟩
  · rcases h' with ⟨_, rfl, rfl⟩ | ⟨p', _⟩
    · exact ⟨rfl, rfl⟩
    · rw [comes_one hl hY hX p', p] at p'; cases p'
  · rcases h' with ⟨p', _⟩ | ⟨_, rfl, rfl⟩
    · rw [← comes_one hl hX hY p, p] at p'; cases p'
    · exact ⟨by rw [comes_one hl hX hY p], rfl⟩
end Go.Proofs.Ytmmcikbedegigaa

/-
  What drops and adds make of lists, one by one: plain mathematics.
-/
namespace Go.Proofs.Ytmmcikbedegigaa
open Go.RowKit
set_option maxRecDepth 100000
set_option maxHeartbeats 4000000
theorem filter_erase : ∀ (l : List Fl) (k : Nat) (f : Fl), (l.map Fl.no).Nodup → l[k]? = some f → l.filter (fun g => decide (g.no ≠ f.no)) = l.take k ++ l.drop (k + 1)
  | [], k, f, _, h => by simp at h
  | a :: r, 0, f, hn, h => by
    obtain rfl : a = f := by simpa using h
    simp only [List.map_cons, List.nodup_cons] at hn
    rw [List.filter_cons]
    simp only [ne_eq, not_true_eq_false, decide_false, Bool.false_eq_true, if_false, List.take_zero, List.nil_append, List.drop_succ_cons, List.drop_zero]
    exact List.filter_eq_self.2 fun g hg => by
      simp only [decide_not, Bool.not_eq_true', decide_eq_false_iff_not]
      exact fun e => hn.1 (e ▸ List.mem_map.2 ⟨g, hg, rfl⟩)
  | a :: r, k + 1, f, hn, h => by
    simp only [List.map_cons, List.nodup_cons] at hn
    have h' : r[k]? = some f := by simpa using h
    have hne : a.no ≠ f.no := fun e => hn.1 (e ▸ List.mem_map.2 ⟨f, List.mem_of_getElem? h', rfl⟩)
    rw [List.filter_cons, if_pos (by simpa using hne), filter_erase r k f hn.2 h']
    simp
theorem pairsF_mem {Q : List (List Fl)} {n : Nat} {z : Int} : (n, z) ∈ pairsF Q ↔ ∃ (k : Nat) (l : List Fl) (f : Fl), Q[k]? = some l ∧ f ∈ l ∧ f.no = n ∧ z = (k : Int) := by
  unfold pairsF
  rw [List.mem_flatMap]
  constructor
  · rintro ⟨⟨l, k⟩, hp, h⟩
    obtain ⟨f, hf, e⟩ := List.mem_map.1 h
    cases e
    exact ⟨k, l, f, List.mem_zipIdx_iff_getElem?.1 hp, hf, rfl, rfl⟩
  · rintro ⟨k, l, f, hq, hf, rfl, rfl⟩
    exact ⟨(l, k), List.mem_zipIdx_iff_getElem?.2 hq, List.mem_map.2 ⟨f, hf, rfl⟩⟩
theorem pairsF_nums (Q : List (List Fl)) : (pairsF Q).map Prod.fst = numsF Q := by
  unfold pairsF numsF
  rw [List.map_flatMap]
  simp only [List.map_map]
  have : ∀ (q : Nat), (Q.zipIdx q).flatMap (fun a => List.map (Prod.fst ∘ fun f => (f.no, (a.2 : Int))) a.1) = Q.flatMap fun l => l.map fun f => f.no := by
    induction Q with
    | nil => intro q; rfl
    | cons x r ih =>
      intro q
      rw [List.zipIdx_cons, List.flatMap_cons, List.flatMap_cons, ih]
      rfl
  exact this 0
theorem numsF_mem {Q : List (List Fl)} {n : Nat} : n ∈ numsF Q ↔ ∃ (k : Nat) (l : List Fl) (f : Fl), Q[k]? = some l ∧ f ∈ l ∧ f.no = n := by
  rw [← pairsF_nums, List.mem_map]
  constructor
  · rintro ⟨⟨a, z⟩, h, rfl⟩
    obtain ⟨k, l, f, h1, h2, h3, _⟩ := pairsF_mem.1 h
    exact ⟨k, l, f, h1, h2, h3⟩
  · rintro ⟨k, l, f, h1, h2, h3⟩
    exact ⟨(n, (k : Int)), pairsF_mem.2 ⟨k, l, f, h1, h2, h3, rfl⟩, rfl⟩
theorem numsF_each : ∀ {Q : List (List Fl)}, (numsF Q).Nodup → ∀ l ∈ Q, (l.map Fl.no).Nodup
  | [], _, l, h => by simp at h
  | x :: r, hn, l, h => by
    have e : numsF (x :: r) = x.map Fl.no ++ numsF r := by simp [numsF, List.flatMap_cons]
    rw [e, List.nodup_append] at hn
    rcases List.mem_cons.1 h with rfl | h
    · exact hn.1
    · exact numsF_each hn.2.1 l h
/-- What is left of lists behind drops. -/
structure Dq (LL : List (List Fl)) (m : Nat → Option Int) (Q : List (List Fl)) : Prop where
  eq : Q = LL.map (List.filter (keepF m))
  mem : ∀ n z, m n = some z ↔ ∃ (k : Nat) (l : List Fl) (f : Fl), Q[k]? = some l ∧ f ∈ l ∧ f.no = n ∧ z = (k : Int)
  nd : ∀ l ∈ Q, (l.map Fl.no).Nodup
theorem Dq.start {LL : List (List Fl)} (h : (numsF LL).Nodup) : Dq LL (mp (pairsF LL)) LL := by
  have hm : ∀ n z, mp (pairsF LL) n = some z ↔ ∃ (k : Nat) (l : List Fl) (f : Fl), LL[k]? = some l ∧ f ∈ l ∧ f.no = n ∧ z = (k : Int) := fun n z => (mp_of_nodup (pairsF LL) (by rw [pairsF_nums]; exact h) n z).trans pairsF_mem
  refine ⟨?_, hm, numsF_each h⟩
  refine ((List.map_congr_left (g := id) fun l hl => ?_).trans (List.map_id _)).symm
  refine List.filter_eq_self.2 fun f hf => ?_
  obtain ⟨k, hk⟩ := List.getElem?_of_mem hl
  unfold keepF
  rw [(hm f.no k).2 ⟨k, l, f, hk, hf, rfl, rfl⟩]
  rfl
theorem Dq.step {LL Q : List (List Fl)} {m : Nat → Option Int} (h : Dq LL m Q) {z k : Nat} {l : List Fl} {f : Fl} (hl : Q[z]? = some l) (hf : l[k]? = some f) : m f.no = some (z : Int) ∧ Dq LL (upd m f.no none) (Q.set z (l.take k ++ l.drop (k + 1))) := by
  have hz := (List.getElem?_eq_some_iff.1 hl).1
  have hm : m f.no = some (z : Int) := (h.mem _ _).2 ⟨z, l, f, hl, List.mem_of_getElem? hf, rfl, rfl⟩
  have E1 : Q.map (List.filter fun g => decide (g.no ≠ f.no)) = Q.set z (l.take k ++ l.drop (k + 1)) := by
    apply List.ext_getElem?
    intro j
    rw [List.getElem?_map, List.getElem?_set]
    by_cases hj : z = j
    · subst hj
      rw [if_pos rfl, if_pos hz, hl]
      show some _ = _
      rw [filter_erase l k f (h.nd l (List.mem_of_getElem? hl)) hf]
    · rw [if_neg hj]
      cases hq : Q[j]? with
      | none => rfl
      | some l' =>
        show some _ = _
        congr 1
        refine List.filter_eq_self.2 fun g hg => ?_
        simp only [ne_eq, decide_not, Bool.not_eq_true', decide_eq_false_iff_not]
        intro e
        have := (h.mem f.no j).2 ⟨j, l', g, hq, hg, e, rfl⟩
        rw [hm] at this
        have := Option.some.inj this
        omega
  refine ⟨hm, ?_⟩
  rw [← E1]
  refine ⟨?_, fun n y => ?_, fun l' hl' => ?_⟩
  · rw [h.eq, List.map_map]
    refine List.map_congr_left fun l' _ => ?_
    show List.filter _ (List.filter _ l') = _
    rw [List.filter_filter]
    refine List.filter_congr fun g _ => ?_
    unfold keepF upd
    by_cases e : g.no = f.no <;> simp [e]
  · constructor
    · intro e
      have hne : n ≠ f.no := fun q => by rw [q] at e; simp [upd] at e
      have e2 : m n = some y := by simpa [upd, hne] using e
      obtain ⟨k', l', g, h1, h2, h3, h4⟩ := (h.mem n y).1 e2
      exact ⟨k', _, g, by rw [List.getElem?_map, h1]; rfl, List.mem_filter.2 ⟨h2, by simp; rw [h3]; exact hne⟩, h3, h4⟩
    · rintro ⟨k', l', g, h1, h2, h3, h4⟩
      rw [List.getElem?_map, Option.map_eq_some_iff] at h1
      obtain ⟨l0, h1, rfl⟩ := h1
      have h5 := List.mem_filter.1 h2
      have hne : n ≠ f.no := by rw [← h3]; simpa using h5.2
      have := (h.mem n y).2 ⟨k', l0, g, h1, h5.1, h3, h4⟩
      simpa [upd, hne] using this
  · obtain ⟨l0, h0, rfl⟩ := List.mem_map.1 hl'
    exact (h.nd l0 h0).sublist (List.filter_sublist.map _)
theorem Dq.miss {LL Q : List (List Fl)} {m : Nat → Option Int} (h : Dq LL m Q) (hl : LL.length = 5) {z : Int} {n : Nat} (hz : ¬ (0 ≤ z ∧ z < 5) ∨ ∀ l, Q[z.toNat]? = some l → ∀ f ∈ l, f.no ≠ n) : m n ≠ some z := fun e => by
  obtain ⟨k, l, f, hq, hf, hn, rfl⟩ := (h.mem n z).1 e
  have hk := (List.getElem?_eq_some_iff.1 hq).1
  have : Q.length = 5 := by rw [h.eq, List.length_map]; exact hl
  rcases hz with hz | hz
  · omega
  · exact hz l (by simpa using hq) f hf hn
theorem okAdds_iff : ∀ (l : List (Int × Nat)) (m : Nat → Option Int), okAdds m l = true ↔ ∀ (i : Nat) (d : Int × Nat), l[i]? = some d → m d.2 = none ∧ d.2 ∉ (l.take i).map Prod.snd
  | [], m => by simp [okAdds]
  | a :: r, m => by
    show ((m a.2).isNone && okAdds (upd m a.2 (some a.1)) r) = true ↔ _
    rw [Bool.and_eq_true, okAdds_iff r]
    constructor
    · rintro ⟨h1, h2⟩ i d hd
      cases i with
      | zero =>
        obtain rfl : a = d := by simpa using hd
        exact ⟨by simpa using h1, by simp⟩
      | succ i =>
        have h3 := h2 i d (by simpa using hd)
        have hne : d.2 ≠ a.2 := fun e => by have := h3.1; simp [upd, e] at this
        refine ⟨by have := h3.1; simpa [upd, hne] using this, ?_⟩
        simp only [List.take_succ_cons, List.map_cons, List.mem_cons, not_or]
        exact ⟨hne, h3.2⟩
    · intro h
      refine ⟨by simpa using (h 0 a rfl).1, fun i d hd => ?_⟩
      have h3 := h (i + 1) d (by simpa using hd)
      simp only [List.take_succ_cons, List.map_cons, List.mem_cons, not_or] at h3
      exact ⟨by simp [upd, h3.2.1, h3.1], h3.2.2⟩
theorem onF_take {A : List AddF} {i k : Nat} {d : AddF} (h : A[i]? = some d) : onF k (A.take (i + 1)) = onF k (A.take i) ++ if d.1 = (k : Int) then [d.2] else [] := by
  unfold onF
  rw [List.take_add_one, h, List.filter_append, List.map_append]
  congr 1
  by_cases e : d.1 = (k : Int) <;> simp [e]
theorem onF_mem {A : List AddF} {k : Nat} {f : Fl} (h : f ∈ onF k A) : f.no ∈ A.map fun d => d.2.no := by
  unfold onF at h
  obtain ⟨d, hd, rfl⟩ := List.mem_map.1 h
  exact List.mem_map.2 ⟨d, (List.mem_filter.1 hd).1, rfl⟩
theorem cmpF_neg {lev : Nat} {x y f : Fl} (h1 : ¬ cmpF lev x f < 0) (h2 : ¬ cmpF lev y x < 0) : ¬ cmpF lev y f < 0 := fun h => by
  unfold cmpF cmpN at *
  by_cases hl : lev = 0
  · simp only [hl, if_true] at *
    split at h <;> split at h1 <;> split at h2 <;> (try split at h) <;> (try split at h1) <;> (try split at h2) <;> omega
  · simp only [hl, if_false] at *
    rcases cmpB_vals y.least x.least with e | e | e
    · omega
    · rw [(cmpB_zero _ _).1 e] at h; exact h1 h
    · exact h1 (cmpB_trans (b := y.least) (by rw [cmpB_swap]; omega) h)
theorem cmpF_asymm {lev : Nat} {x f : Fl} (h : cmpF lev x f < 0) : ¬ cmpF lev f x < 0 := fun h' => by
  unfold cmpF cmpN at *
  by_cases hl : lev = 0
  · simp only [hl, if_true] at *
    split at h <;> split at h' <;> (try split at h) <;> (try split at h') <;> omega
  · simp only [hl, if_false] at *
    rw [cmpB_swap] at h'
    omega
theorem pair_sorted {lev : Nat} {l : List Fl} (h : l.Pairwise fun x y => ¬ cmpF lev y x < 0) : sortedF lev l := fun i j x y hij hx hy => by
  obtain ⟨hi, rfl⟩ := List.getElem?_eq_some_iff.1 hx
  obtain ⟨hj, rfl⟩ := List.getElem?_eq_some_iff.1 hy
  exact List.pairwise_iff_getElem.1 h i j hi hj hij
theorem sorted_put {lev p : Nat} {l : List Fl} {f : Fl} (h : sortedF lev l) (h1 : ∀ x ∈ l.take p, cmpF lev x f < 0) (h2 : ∀ x, l[p]? = some x → ¬ cmpF lev x f < 0) : sortedF lev (l.take p ++ f :: l.drop p) := by
  have hp := sorted_pair h
  have hp2 := hp
  rw [← List.take_append_drop p l, List.pairwise_append] at hp2
  refine pair_sorted (List.pairwise_append.2 ⟨hp2.1, List.pairwise_cons.2 ⟨fun y hy => ?_, hp2.2.1⟩, fun x hx y hy => ?_⟩)
  · by_cases hl : p < l.length
    · rw [List.drop_eq_getElem_cons hl] at hy hp2
      have h3 := h2 l[p] (List.getElem?_eq_getElem hl)
      rcases List.mem_cons.1 hy with rfl | hy
      · exact h3
      · exact cmpF_neg h3 ((List.pairwise_cons.1 hp2.2.1).1 y hy)
    · rw [List.drop_eq_nil_of_le (by omega)] at hy
      simp at hy
  · rcases List.mem_cons.1 hy with rfl | hy
    · exact cmpF_asymm (h1 x hx)
    · exact hp2.2.2 x hx y hy
theorem put_perm (l : List Fl) (p : Nat) (f : Fl) : (l.take p ++ f :: l.drop p).Perm (l ++ [f]) := by
  refine List.perm_middle.trans ?_
  rw [List.take_append_drop]
  exact (List.perm_append_comm (l₁ := [f]) (l₂ := l))
/-- What comes of lists behind so many adds. -/
structure Aq (Q : List (List Fl)) (A : List AddF) (i : Nat) (Y : List (List Fl)) : Prop where
  len : Y.length = 5
  qlen : Q.length = 5
  per : ∀ (k : Nat) (l l' : List Fl), Q[k]? = some l → Y[k]? = some l' → l'.Perm (l ++ onF k (A.take i)) ∧ sortedF k l'
  ok : ∀ (j : Nat) (d : AddF), j < i → A[j]? = some d → d.2.no ∉ numsF Q ∧ d.2.no ∉ (A.take j).map fun d => d.2.no
theorem Aq.start {Q : List (List Fl)} (A : List AddF) (hq : Q.length = 5) (hs : ∀ k l, Q[k]? = some l → sortedF k l) : Aq Q A 0 Q :=
  ⟨hq, hq, fun k l l' h h' => by rw [h] at h'; cases h'; exact ⟨by simp [onF], hs k l h⟩, fun j d h => absurd h (Nat.not_lt_zero _)⟩
theorem Aq.nums {Q Y : List (List Fl)} {A : List AddF} {i n : Nat} (h : Aq Q A i Y) (hn : n ∈ numsF Y) : n ∈ numsF Q ∨ n ∈ (A.take i).map fun d => d.2.no := by
  obtain ⟨k, l', f, h1, h2, rfl⟩ := numsF_mem.1 hn
  have hk := (List.getElem?_eq_some_iff.1 h1).1
  have := h.len
  have := h.qlen
  obtain ⟨l, hl⟩ : ∃ l, Q[k]? = some l := ⟨_, List.getElem?_eq_getElem (by omega)⟩
  rcases List.mem_append.1 ((h.per k l l' hl h1).1.mem_iff.1 h2) with h3 | h3
  · exact .inl (numsF_mem.2 ⟨k, l, f, hl, h3, rfl⟩)
  · exact .inr (onF_mem h3)
theorem Aq.nums' {Q Y : List (List Fl)} {A : List AddF} {i n : Nat} (h : Aq Q A i Y) (hn : n ∈ numsF Q) : n ∈ numsF Y := by
  obtain ⟨k, l, f, h1, h2, rfl⟩ := numsF_mem.1 hn
  have hk := (List.getElem?_eq_some_iff.1 h1).1
  have := h.len
  have := h.qlen
  obtain ⟨l', hl⟩ : ∃ l, Y[k]? = some l := ⟨_, List.getElem?_eq_getElem (by omega)⟩
  exact numsF_mem.2 ⟨k, l', f, hl, (h.per k l l' h1 hl).1.mem_iff.2 (List.mem_append_left _ h2), rfl⟩
theorem nosF_take (A : List AddF) (i : Nat) : ((nosF A).take i).map Prod.snd = (A.take i).map fun d => d.2.no := by
  unfold nosF
  rw [← List.map_take, List.map_map]
  rfl
theorem Aq.there {Q Y : List (List Fl)} {A : List AddF} {i : Nat} {d : AddF} (h : Aq Q A i Y) (hd : A[i]? = some d) (hn : d.2.no ∈ numsF Y ∨ d.2.no ∈ (A.take i).map fun d => d.2.no) : okAdds (mp (pairsF Q)) (nosF A) = false := by
  rw [← Bool.not_eq_true, okAdds_iff]
  intro hok
  have h1 := hok i (d.1, d.2.no) (by simp [nosF, hd])
  rw [nosF_take] at h1
  rcases hn with hn | hn
  · rcases h.nums hn with h2 | h2
    · have h3 : (mp (pairsF Q) d.2.no).isSome = true := (mp_isSome _ _).2 (by
        rw [← pairsF_nums, List.mem_map] at h2
        obtain ⟨⟨a, v⟩, h2, e⟩ := h2
        exact ⟨v, by rw [← e]; exact h2⟩)
      rw [h1.1] at h3
      cases h3
    · exact h1.2 h2
  · exact h1.2 hn
theorem Aq.ok' {Q Y : List (List Fl)} {A : List AddF} {i : Nat} {d : AddF} (h : Aq Q A i Y) (hd : A[i]? = some d) (h1 : d.2.no ∉ numsF Y) (h2 : d.2.no ∉ (A.take i).map fun d => d.2.no) : ∀ (j : Nat) (e : AddF), j < i + 1 → A[j]? = some e → e.2.no ∉ numsF Q ∧ e.2.no ∉ (A.take j).map fun d => d.2.no := fun j e hj he => by
  rcases Nat.lt_or_ge j i with hji | hji
  · exact h.ok j e hji he
  · obtain rfl : j = i := by omega
    rw [hd] at he
    cases he
    exact ⟨fun q => h1 (h.nums' q), h2⟩
theorem Aq.odd {Q Y : List (List Fl)} {A : List AddF} {i : Nat} {d : AddF} (h : Aq Q A i Y) (hd : A[i]? = some d) (h1 : d.2.no ∉ numsF Y) (h2 : d.2.no ∉ (A.take i).map fun d => d.2.no) (hz : ¬ (0 ≤ d.1 ∧ d.1 < 5)) : Aq Q A (i + 1) Y :=
  ⟨h.len, h.qlen, fun k l l' hl hl' => by
    have hk := (List.getElem?_eq_some_iff.1 hl).1
    have := h.qlen
    rw [onF_take hd, if_neg (by omega), List.append_nil]
    exact h.per k l l' hl hl', h.ok' hd h1 h2⟩
theorem Aq.put {Q Y : List (List Fl)} {A : List AddF} {i z p : Nat} {d : AddF} {l : List Fl} (h : Aq Q A i Y) (hd : A[i]? = some d) (h1 : d.2.no ∉ numsF Y) (h2 : d.2.no ∉ (A.take i).map fun d => d.2.no) (hz : d.1 = (z : Int)) (hl : Y[z]? = some l) (p1 : ∀ x ∈ l.take p, cmpF z x d.2 < 0) (p2 : ∀ x, l[p]? = some x → ¬ cmpF z x d.2 < 0) : Aq Q A (i + 1) (Y.set z (l.take p ++ d.2 :: l.drop p)) :=
  ⟨by rw [List.length_set]; exact h.len, h.qlen, fun k q l' hq hl' => by
    rw [onF_take hd]
    rw [List.getElem?_set] at hl'
    by_cases hk : z = k
    · subst hk
      rw [if_pos rfl, if_pos (List.getElem?_eq_some_iff.1 hl).1] at hl'
      cases hl'
      have h3 := h.per z q l hq hl
      rw [if_pos hz]
      refine ⟨?_, sorted_put h3.2 p1 p2⟩
      rw [← List.append_assoc]
      exact (put_perm l p d.2).trans (h3.1.append_right _)
    · rw [if_neg hk] at hl'
      rw [if_neg (by omega), List.append_nil]
      exact h.per k q l' hq hl', h.ok' hd h1 h2⟩
theorem Aq.done {Q Y : List (List Fl)} {A : List AddF} (h : Aq Q A A.length Y) : okAdds (mp (pairsF Q)) (nosF A) = true ∧ Comes Q A Y := by
  refine ⟨(okAdds_iff _ _).2 fun i d hd => ?_, h.len, fun k l l' hl hl' => ?_⟩
  · rw [nosF_take]
    simp only [nosF, List.getElem?_map, Option.map_eq_some_iff] at hd
    obtain ⟨e, he, rfl⟩ := hd
    have h1 := h.ok i e (List.getElem?_eq_some_iff.1 he).1 he
    refine ⟨?_, h1.2⟩
    cases hm : mp (pairsF Q) e.2.no with
    | none => rfl
    | some v =>
      have : (mp (pairsF Q) e.2.no).isSome = true := by rw [hm]; rfl
      obtain ⟨u, hu⟩ := (mp_isSome _ _).1 this
      exact absurd (by rw [← pairsF_nums]; exact List.mem_map.2 ⟨_, hu, rfl⟩) h1.1
  · have := h.per k l l' hl hl'
    rwa [List.take_length] at this
/-- The lists of a version that may be are in order, and so is what is left of them. -/
theorem sorted_of_ok {LL : List (List Fl)} {next seq log : Nat} (h : wrongVF LL next seq log = false) (m : Nat → Option Int) : ∀ k l, (LL.map (List.filter (keepF m)))[k]? = some l → sortedF k l := fun k l hl => by
  rw [List.getElem?_map, Option.map_eq_some_iff] at hl
  obtain ⟨l0, h0, rfl⟩ := hl
  have h3 := wrongVF_lev h h0
  unfold wrongLF at h3
  simp only [Bool.or_eq_false_iff, Bool.not_eq_false'] at h3
  have h4 := ordF_strict k l0 h3.2 fun z hz => by have := List.any_eq_false.1 h3.1.1 z hz; simpa using this
  exact pair_sorted ((h4.imp fun hxy => cmpF_asymm hxy).sublist List.filter_sublist)
theorem nodup_of_ok {LL : List (List Fl)} {next seq log : Nat} (h : wrongVF LL next seq log = false) : (numsF LL).Nodup := by
  unfold wrongVF at h
  simp only [Bool.or_eq_false_iff, Bool.not_eq_false', decide_eq_true_eq] at h
  exact h.2
end Go.Proofs.Ytmmcikbedegigaa
