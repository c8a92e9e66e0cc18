import Derived.Test.YtmmcikbedegigaaGreatM14
import Derived.Lib.SlBytesConst
import Derived.Lib.ConvBytes
import Derived.Test.YtmmcikbedegigaaGreatM13
import Derived.Test.YtmmcikbedegigaaGreatM16
/-
  First; the law's files and edits.
-/
namespace Go.Proofs.YtmmcikbedegigaaGreat
open Go.RowKit Go.Shelf
set_option maxRecDepth 100000
set_option maxHeartbeats 4000000
/-- A text's bytes. -/
def bsOf (s : ByteArray) : List (BitVec 8) := s.data.toList.map fun u => BitVec.ofNat 8 u.toNat
theorem conv_new (s : ByteArray) (w : World) : ∃ c w', (convert 9 38 (.string s)).run Tryz.prog w = .ok (.slice (some ⟨w.heap.size, 0, none⟩) s.size c) w' ∧ Bytes w' (.slice (some ⟨w.heap.size, 0, none⟩) s.size c) (bsOf s) ∧ s.size ≤ c ∧ Below w.heap.size w w' := by
  refine ⟨_, _, Lib.run_convert_string_bytes w 9 38 5 s Tryz.underlying9 Tryz.underlying38 Tryz.underlying5, ⟨_, _, by simp [bsOf]; rfl, fun k hk => ⟨w.heap.size, 0, rfl, ?_⟩⟩, grownCap_ge _ _ _ _, ⟨rfl, rfl, rfl, by rw [Lib.bytesWorld_size]; omega, fun k hk => Lib.bytesWorld_at_old w 5 s k hk⟩⟩
  have hk' : k < s.data.toList.length := by simpa [bsOf] using hk
  rw [Nat.zero_add, Lib.bytesWorld_cell w 5 s k (by simpa using hk')]
  have h1 : s.data.toList.getD k 0 = s.data.toList[k] := by simp [List.getD, List.getElem?_eq_getElem hk']
  have h2 : (bsOf s).getD k 0 = BitVec.ofNat 8 (s.data.toList[k]).toNat := by
    simp only [bsOf, List.getD, List.getElem?_map, List.getElem?_eq_getElem hk', Option.map_some, Option.getD_some]
  rw [h1, h2]
  have := (s.data.toList[k]).toNat_lt
  congr 2
  simp only [BitVec.toNat_ofNat]
  omega
theorem bsOf_length (s : ByteArray) : (bsOf s).length = s.size := by simp [bsOf]
theorem file_any (no : Nat) (s t : ByteArray) (w : World) : Calls Tryz.prog 15 #[.int .u64 (no : Nat), .string s, .string t] w fun e w' => ∃ x : Tf, e = .returned x.agg ∧ x.f = ⟨no, 100, bsOf s, bsOf t, 1, 1⟩ ∧ FB w' x ∧ Turns (fun _ => False) w w' := by
  have n0 := heap_alloc_new w (.cells #[.int .u64 0, .int .i64 0, .slice none 0 0, .slice none 0 0, .int .i64 0, .int .u64 0] 49)
  have b0 := (Below.refl w.heap.size w).alloc (Nat.le_refl _) (.cells #[.int .u64 0, .int .i64 0, .slice none 0 0, .slice none 0 0, .int .i64 0, .int .u64 0] 49)
  obtain ⟨c1, w1, hc1, hy1, hcap1, b1⟩ := conv_new s (w.alloc (.cells #[.int .u64 0, .int .i64 0, .slice none 0 0, .slice none 0 0, .int .i64 0, .int .u64 0] 49))
  obtain ⟨c2, w2, hc2, hy2, _, b2⟩ := conv_new t w1
  have HN := hide (heap_keep b2 (heap_keep b1 n0))
  have HY1 := hide (hy1.below b2)
  have HY2 := hide hy2
  have hs1 := b1.size
  rw [World.size_alloc] at hc1 HY1 hs1
  have B2 := hide ((b0.trans (b1.mono b0.size)).trans (b2.mono (Nat.le_trans b0.size b1.size)))
  clear n0 b0 hy1 b1 hy2 b2
  go_enter Tryz.func15, Tryz.ntmps15
  go_wp2_with (refine wpList_store_row rfl 49 _ _ rfl _ _ rfl rfl _ _ HN.out ?_ ?_ ?_ ?_; (exact sz37); (simp only [List.size_toArray, List.length_cons, List.length_nil]); (simp [Value.oneCell']))
  have tr : Turns (fun j => j = w.heap.size) w2 (w2.setRow w.heap.size #[.int .u64 (no : Nat), .int .i64 100, .slice (some ⟨w.heap.size + 1, 0, none⟩) s.size c1, .slice (some ⟨w1.heap.size, 0, none⟩) t.size c2, .int .i64 1, .int .u64 1]) := ⟨rfl, rfl, rfl, by simp, fun k _ hk => setRow_other _ _ _ _ hk⟩
  refine bodyPost_ret (v := .agg #[.int .u64 (no : Nat), .int .i64 100, .slice (some ⟨w.heap.size + 1, 0, none⟩) s.size c1, .slice (some ⟨w1.heap.size, 0, none⟩) t.size c2, .int .i64 1, .int .u64 1]) ?_ rfl ?_
  · exact results_cell_row Tryz.results15 _ _ _ _ _ _ _ rfl (setRow_heap _ _ _ _ _ _ HN.out) Tryz.underlying49 rfl sz37
  · refine ⟨⟨some ⟨w.heap.size + 1, 0, none⟩, c1, some ⟨w1.heap.size, 0, none⟩, c2, ⟨no, 100, bsOf s, bsOf t, 1, 1⟩⟩, by simp only [Tf.agg, bsOf_length]; rfl, rfl, ⟨?_, ?_⟩, (Turns.of_below B2.out _).andThen tr fun j hj e => by omega⟩
    · simp only [bsOf_length]
      exact HY1.out.turns tr (fun a n c e => by cases e; show ¬ w.heap.size + 1 = w.heap.size; omega)
    · simp only [bsOf_length]
      exact HY2.out.turns tr (fun a n c e => by cases e; show ¬ w1.heap.size = w.heap.size; omega)
theorem sz33 : (Tryz.prog.info? 33).map (·.size) = some 5 := by kernel_rfl
theorem add1_any (en : Nat) (x : Tf) (w : World) (h : FB w x) (hen : en < 18446744073709551616) (hno : x.f.no < 18446744073709551616) (h1 : x.f.least.length ≤ 1000000) (h2 : x.f.most.length ≤ 1000000) :
    Calls Tryz.prog 14 #[.int .u64 (en : Nat), x.agg] w fun e w' => ∃ ga, e = .returned (edAgg none 0 0 (some ⟨ga, 0, none⟩) 1 1 en 0 0) ∧ EdIn w' none 0 (some ⟨ga, 0, none⟩) 1 [] [(1, x)] en 0 0 ∧ Turns (fun _ => False) w w' := by
  obtain ⟨la, lc, ma, mc, ⟨no, sz, ls, ms, en', sq⟩⟩ := x
  have T1 := hide ((((Turns.refl (fun _ => False) w).alloc (.cells #[.int .u64 (no : Nat), .int .i64 sz, .slice la ls.length lc, .slice ma ms.length mc, .int .i64 en', .int .u64 (sq : Nat)] 49)).alloc (.cells #[.slice none 0 0, .slice (some ⟨w.heap.size + 1 + 1, 0, none⟩) 1 1, .int .u64 (en : Nat), .int .u64 0, .int .u64 0] 33)).alloc (.cells #[.int .i64 1, .int .u64 (no : Nat), .int .i64 sz, .slice la ls.length lc, .slice ma ms.length mc, .int .i64 en', .int .u64 (sq : Nat)] 56))
  have N1 := ((Turns.refl (fun _ => False) ((w.alloc (.cells #[.int .u64 (no : Nat), .int .i64 sz, .slice la ls.length lc, .slice ma ms.length mc, .int .i64 en', .int .u64 (sq : Nat)] 49)).alloc (.cells #[.slice none 0 0, .slice (some ⟨w.heap.size + 1 + 1, 0, none⟩) 1 1, .int .u64 (en : Nat), .int .u64 0, .int .u64 0] 33))).alloc (.cells #[.int .i64 1, .int .u64 (no : Nat), .int .i64 sz, .slice la ls.length lc, .slice ma ms.length mc, .int .i64 en', .int .u64 (sq : Nat)] 56)).heap (heap_alloc_new (w.alloc (.cells #[.int .u64 (no : Nat), .int .i64 sz, .slice la ls.length lc, .slice ma ms.length mc, .int .i64 en', .int .u64 (sq : Nat)] 49)) (.cells #[.slice none 0 0, .slice (some ⟨w.heap.size + 1 + 1, 0, none⟩) 1 1, .int .u64 (en : Nat), .int .u64 0, .int .u64 0] 33)) (fun x => x)
  have N2 := heap_alloc_new ((w.alloc (.cells #[.int .u64 (no : Nat), .int .i64 sz, .slice la ls.length lc, .slice ma ms.length mc, .int .i64 en', .int .u64 (sq : Nat)] 49)).alloc (.cells #[.slice none 0 0, .slice (some ⟨w.heap.size + 1 + 1, 0, none⟩) 1 1, .int .u64 (en : Nat), .int .u64 0, .int .u64 0] 33)) (.cells #[.int .i64 1, .int .u64 (no : Nat), .int .i64 sz, .slice la ls.length lc, .slice ma ms.length mc, .int .i64 en', .int .u64 (sq : Nat)] 56)
  simp only [World.size_alloc] at N1 N2
  have HN1 := hide N1
  have HN2 := hide N2
  have HFB := hide h
  unfold Tf.agg
  simp only at *
  clear N1 N2 h
  go_enter Tryz.func14, Tryz.ntmps14
  go_wp2_with fail
  generalize hWF : ((w.alloc (.cells #[.int .u64 (no : Nat), .int .i64 sz, .slice la ls.length lc, .slice ma ms.length mc, .int .i64 en', .int .u64 (sq : Nat)] 49)).alloc (.cells #[.slice none 0 0, .slice (some ⟨w.heap.size + 1 + 1, 0, none⟩) 1 1, .int .u64 (en : Nat), .int .u64 0, .int .u64 0] 33)).alloc (.cells #[.int .i64 1, .int .u64 (no : Nat), .int .i64 sz, .slice la ls.length lc, .slice ma ms.length mc, .int .i64 en', .int .u64 (sq : Nat)] 56) = WF at *
  refine bodyPost_ret (v := .agg #[.slice none 0 0, .slice (some ⟨w.heap.size + 1 + 1, 0, none⟩) 1 1, .int .u64 (en : Nat), .int .u64 0, .int .u64 0]) ?_ rfl ?_
  · exact results_cell_row Tryz.results14 _ _ _ _ _ _ _ rfl HN1.out Tryz.underlying33 rfl sz33
  · refine ⟨w.heap.size + 1 + 1, rfl, ⟨fun k d hd => by simp at hd, rfl, by omega, fun k d hd => ?_, rfl, by omega, fun d hd => ?_, hen, by omega, by omega⟩, T1.out⟩
    · cases k with
      | zero =>
        obtain rfl : _ = d := by simpa using hd
        have hc : ∀ j, WF.cell? ⟨w.heap.size + 1 + 1, j, none⟩ = _ := fun j => cell_of_row WF (w.heap.size + 1 + 1) j _ 56 (0, 0) HN2.out
        refine ⟨⟨w.heap.size + 1 + 1, 0, rfl, hc 0, ⟨hc 1, hc 2, hc 3, hc 4, hc 5, hc 6⟩⟩, HFB.out.quiet T1.out⟩
      | succ k => simp at hd
    · obtain rfl := List.mem_singleton.1 hd
      exact ⟨hno, h1, h2⟩
theorem make5 (w : World) : (Instr.makeSlice 24 (.int .i64 5) (.int .i64 5)).run Tryz.prog w = .ok (.slice (some ⟨w.heap.size, 0, none⟩) 5 5) (w.alloc (.cells #[.slice none 0 0, .slice none 0 0, .slice none 0 0, .slice none 0 0, .slice none 0 0] 53)) := by
  have h := run_makeSlice w 24 53 Tryz.t53 _ Tryz.underlying24 info50 t50_zero .i64 .i64 5 5 (by omega) (by omega) (by rw [t50_size]; omega) (by rw [t50_bytes]; omega) (by omega)
  have e : madeCells (Value.slice none 0 0).cells (Int.toNat 5 * Tryz.t53.size) = #[.slice none 0 0, .slice none 0 0, .slice none 0 0, .slice none 0 0, .slice none 0 0] := by kernel_rfl
  rw [e] at h
  exact h
theorem first_any (w : World) : Calls Tryz.prog 5 #[] w fun e w' => ∃ G L, e = .returned (verAgg (some ⟨G, 0, none⟩) 5 5 1 0 0) ∧ VerIn w' (some ⟨G, 0, none⟩) 5 L 1 0 0 ∧ flL L = [[], [], [], [], []] ∧ Turns (fun _ => False) w w' := by
  have T1 := hide (((Turns.refl (fun _ => False) w).alloc (.cells #[.slice none 0 0, .int .u64 0, .int .u64 0, .int .u64 0] 27)).alloc (.cells #[.slice none 0 0, .slice none 0 0, .slice none 0 0, .slice none 0 0, .slice none 0 0] 53))
  have N1 := hide (((Turns.refl (fun _ => False) (w.alloc (.cells #[.slice none 0 0, .int .u64 0, .int .u64 0, .int .u64 0] 27))).alloc (.cells #[.slice none 0 0, .slice none 0 0, .slice none 0 0, .slice none 0 0, .slice none 0 0] 53)).heap (heap_alloc_new w _) (fun x => x))
  have N2 := hide (heap_alloc_new (w.alloc (.cells #[.slice none 0 0, .int .u64 0, .int .u64 0, .int .u64 0] 27)) (.cells #[.slice none 0 0, .slice none 0 0, .slice none 0 0, .slice none 0 0, .slice none 0 0] 53))
  have hmk := make5 (w.alloc (.cells #[.slice none 0 0, .int .u64 0, .int .u64 0, .int .u64 0] 27))
  simp only [World.size_alloc] at N2 hmk
  go_enter Tryz.func5, Tryz.ntmps5
  go_wp2_with (refine wpList_store_row rfl 27 _ _ rfl _ _ rfl rfl _ _ N1.out ?_ ?_ ?_ ?_; (exact sz25); (simp only [List.size_toArray, List.length_cons, List.length_nil]); (simp [Value.oneCell']))
  generalize hw2 : (w.alloc (.cells #[.slice none 0 0, .int .u64 0, .int .u64 0, .int .u64 0] 27)).alloc (.cells #[.slice none 0 0, .slice none 0 0, .slice none 0 0, .slice none 0 0, .slice none 0 0] 53) = w2 at *
  have tr : Turns (fun j => j = w.heap.size) w2 (w2.setRow w.heap.size #[.slice (some ⟨w.heap.size + 1, 0, none⟩) 5 5, .int .u64 1, .int .u64 0, .int .u64 0]) := ⟨rfl, rfl, rfl, by simp, fun k _ hk => setRow_other _ _ _ _ hk⟩
  refine bodyPost_ret (v := .agg #[.slice (some ⟨w.heap.size + 1, 0, none⟩) 5 5, .int .u64 1, .int .u64 0, .int .u64 0]) ?_ rfl ?_
  · exact results_cell_row Tryz.results5 _ _ _ _ _ _ _ rfl (setRow_heap _ _ _ _ _ _ N1.out) Tryz.underlying27 rfl sz25
  · have hG := tr.heap N2.out (show ¬ w.heap.size + 1 = w.heap.size by omega)
    have hc := fun j => cell_of_row _ (w.heap.size + 1) j _ 53 (0, 0) hG
    refine ⟨w.heap.size + 1, [⟨none, 0, []⟩, ⟨none, 0, []⟩, ⟨none, 0, []⟩, ⟨none, 0, []⟩, ⟨none, 0, []⟩], rfl, ⟨fun k x hx => ?_, rfl, by simp [cnt], by simp [byts], fun x hx y hy => ?_, by omega, by omega, by omega⟩, rfl, T1.out.andThen tr fun j hj e => by omega⟩
    · have hk := (List.getElem?_eq_some_iff.1 hx).1
      simp only [List.length_cons, List.length_nil] at hk
      have nil : ∀ u, Fils u none [] := fun u k x hx => by simp at hx
      rcases (by omega : k = 0 ∨ k = 1 ∨ k = 2 ∨ k = 3 ∨ k = 4) with rfl | rfl | rfl | rfl | rfl <;> (cases hx; exact ⟨⟨_, 0, rfl, hc _⟩, nil _⟩)
    · simp at hx
      rcases hx with rfl
      simp at hy
end Go.Proofs.YtmmcikbedegigaaGreat

/-
  What an edit makes of a version is one.
-/
namespace Go.Proofs.YtmmcikbedegigaaGreat
open Go.RowKit
set_option maxRecDepth 100000
set_option maxHeartbeats 4000000
theorem cmpB_trans {a b c : List (BitVec 8)} (h : cmpB a b < 0) (k : cmpB b c < 0) : cmpB a c < 0 := by
  have h1 : cmpB a b = -1 := by rcases cmpB_vals a b with h | h | h <;> omega
  have h2 : cmpB b c = -1 := by rcases cmpB_vals b c with h | h | h <;> omega
  have := cmpB_lt h1 h2
  omega
theorem cmpB_le_lt {a b c : List (BitVec 8)} (h : cmpB a b ≤ 0) (k : cmpB b c < 0) : cmpB a c < 0 := by
  rcases cmpB_vals a b with e | e | e
  · exact cmpB_trans (by omega) k
  · rw [(cmpB_zero a b).1 e]; exact k
  · omega
theorem cmpF_trans {lev : Nat} {a b c : Fl} (h : cmpF lev a b < 0) (k : cmpF lev b c < 0) : cmpF lev a c < 0 := by
  unfold cmpF cmpN at *
  by_cases hl : lev = 0
  · simp only [hl, if_true] at *; split at h <;> split at k <;> (try split at h) <;> (try split at k) <;> split <;> (try split) <;> omega
  · simp only [hl, if_false] at *; exact cmpB_trans h k
theorem ahead_lt {lev : Nat} {a b : Fl} (h : aheadF lev a b = true) (hw : wrongF a = false) : cmpF lev a b < 0 := by
  unfold aheadF at h
  unfold cmpF cmpN
  by_cases hl : lev = 0
  · simp only [hl, if_true, decide_eq_true_eq] at *; rw [if_pos h]; omega
  · simp only [hl, if_false, decide_eq_true_eq] at *
    obtain ⟨_, _, _, _, _, _, _, _, _, _, h11⟩ := wrongF_false hw
    exact cmpB_le_lt h11 h
theorem ordF_strict (lev : Nat) : ∀ l : List Fl, ordF lev l = true → (∀ x ∈ l, wrongF x = false) → l.Pairwise fun x y => cmpF lev x y < 0
  | [], _, _ => .nil
  | [_], _, _ => by simp
  | a :: b :: r, h, hw => by
    unfold ordF at h
    rw [Bool.and_eq_true] at h
    have ih := ordF_strict lev (b :: r) h.2 fun x hx => hw x (List.mem_cons_of_mem _ hx)
    have hab := ahead_lt h.1 (hw a (by simp))
    refine List.pairwise_cons.2 ⟨fun z hz => ?_, ih⟩
    rcases List.mem_cons.1 hz with rfl | hz
    · exact hab
    · exact cmpF_trans hab ((List.pairwise_cons.1 ih).1 z hz)
theorem sorted_pair {lev : Nat} {l : List Fl} (h : sortedF lev l) : l.Pairwise fun x y => ¬ cmpF lev y x < 0 := by
  rw [List.pairwise_iff_getElem]
  intro i j hi hj hij
  exact h i j _ _ hij (List.getElem?_eq_getElem hi) (List.getElem?_eq_getElem hj)
theorem one_order (lt : Fl → Fl → Prop) : ∀ l1 l2 : List Fl, l1.Pairwise lt → l2.Pairwise (fun x y => ¬ lt y x) → l1.Perm l2 → l1 = l2
  | [], l2, _, _, hp => hp.nil_eq
  | a :: r, [], _, _, hp => by have := hp.length_eq; simp at this
  | a :: r, b :: s, h1, h2, hp => by
    have hab : a = b := by
      by_cases e : a = b
      · exact e
      · have hb : b ∈ r := by
          have := hp.mem_iff.2 (List.mem_cons_self (a := b) (l := s))
          rcases List.mem_cons.1 this with e' | h
          · exact absurd e'.symm e
          · exact h
        have ha : a ∈ s := by
          have := hp.mem_iff.1 (List.mem_cons_self (a := a) (l := r))
          rcases List.mem_cons.1 this with e' | h
          · exact absurd e' e
          · exact h
        exact absurd ((List.pairwise_cons.1 h1).1 b hb) ((List.pairwise_cons.1 h2).1 a ha)
    subst hab
    rw [one_order lt r s (List.pairwise_cons.1 h1).2 (List.pairwise_cons.1 h2).2 (List.perm_cons a |>.1 hp)]
theorem wrongVF_lev {LL : List (List Fl)} {next seq log : Nat} (h : wrongVF LL next seq log = false) {k : Nat} {l : List Fl} (hl : LL[k]? = some l) : wrongLF next k l = false := by
  unfold wrongVF at h
  simp only [Bool.or_eq_false_iff] at h
  have := List.any_eq_false.1 h.1.2 (l, k) (List.mem_zipIdx_iff_getElem?.2 hl)
  simpa using this
theorem comes_one {LL : List (List Fl)} {A : List AddF} {X Y : List (List Fl)} {en es el : Nat} (hl : LL.length = 5) (hx : Comes LL A X) (hy : Comes LL A Y) (hw : wrongVF X en es el = false) : X = Y := by
  apply List.ext_getElem?
  intro k
  by_cases hk : k < 5
  · obtain ⟨l, hl'⟩ : ∃ l, LL[k]? = some l := ⟨_, List.getElem?_eq_getElem (by omega)⟩
    obtain ⟨x, hx'⟩ : ∃ l, X[k]? = some l := ⟨_, List.getElem?_eq_getElem (by rw [hx.1]; omega)⟩
    obtain ⟨y, hy'⟩ : ∃ l, Y[k]? = some l := ⟨_, List.getElem?_eq_getElem (by rw [hy.1]; omega)⟩
    have h1 := hx.2 k l x hl' hx'
    have h2 := hy.2 k l y hl' hy'
    have h3 := wrongVF_lev hw hx'
    unfold wrongLF at h3
    simp only [Bool.or_eq_false_iff, Bool.not_eq_false'] at h3
    have h4 := ordF_strict k x h3.2 fun z hz => by have := List.any_eq_false.1 h3.1.1 z hz; simpa using this
    rw [hx', hy', one_order _ x y h4 (sorted_pair h2.2) (h1.1.trans h2.1.symm)]
  · rw [List.getElem?_eq_none (by rw [hx.1]; omega), List.getElem?_eq_none (by rw [hy.1]; omega)]
theorem len_of_ok {LL : List (List Fl)} {next seq log : Nat} (h : wrongVF LL next seq log = false) : LL.length = 5 := by
  unfold wrongVF at h
  simp only [Bool.or_eq_false_iff, decide_eq_false_iff_not] at h
  omega
theorem ApplyR.one {LL : List (List Fl)} {next seq log : Nat} {D : List (Int × Nat)} {A : List AddF} {en es el : Nat} {r r' : Option (List (List Fl))} {e e' : Int} (h : ApplyR LL next seq log D A en es el r e) (h' : ApplyR LL next seq log D A en es el r' e') : r = r' ∧ e = e' := by
  rcases h with ⟨a, rfl, rfl⟩ | ⟨a, h⟩
  · rcases h' with ⟨b, rfl, rfl⟩ | ⟨b, _⟩
    · exact ⟨rfl, rfl⟩
    · rw [a] at b; cases b
  rcases h' with ⟨b, _⟩ | ⟨_, h'⟩
  · rw [a] at b; cases b
  rcases h with ⟨d, rfl, rfl⟩ | ⟨m, d, h⟩
  · rcases h' with ⟨_, rfl, rfl⟩ | ⟨m', d', _⟩
    · exact ⟨rfl, rfl⟩
    · rw [d] at d'; cases d'
  rcases h' with ⟨d', _⟩ | ⟨m', d', h'⟩
  · rw [d] at d'; cases d'
  rw [d] at d'
  cases d'
  rcases h with ⟨o, rfl, rfl⟩ | ⟨o, h⟩
  · rcases h' with ⟨_, rfl, rfl⟩ | ⟨o', _⟩
    · exact ⟨rfl, rfl⟩
    · rw [o] at o'; cases o'
  rcases h' with ⟨o', _⟩ | ⟨_, h'⟩
  · rw [o] at o'; cases o'
  rcases h with ⟨g, rfl, rfl⟩ | ⟨g, X, hX, h⟩
  · rcases h' with ⟨_, rfl, rfl⟩ | ⟨g', _⟩
    · exact ⟨rfl, rfl⟩
    · rw [g] at g'; cases g'
  rcases h' with ⟨g', _⟩ | ⟨_, Y, hY, h'⟩
  · rw [g] at g'; cases g'
  have hl : (LL.map (List.filter (keepF m))).length = 5 := by rw [List.length_map]; exact len_of_ok a
  rcases h with ⟨p, rfl, rfl⟩ | ⟨p, rfl, rfl⟩
  · rcases h' with ⟨_, rfl, rfl⟩ | ⟨p', _⟩
    · exact ⟨rfl, rfl⟩
    · rw [comes_one hl hY hX p', p] at p'; cases p'
  · rcases h' with ⟨p', _⟩ | ⟨_, rfl, rfl⟩
    · rw [← comes_one hl hX hY p, p] at p'; cases p'
    · exact ⟨by rw [comes_one hl hX hY p], rfl⟩
end Go.Proofs.YtmmcikbedegigaaGreat

/-
  The chapter's examples, told by files alone.
-/
namespace Go.Proofs.YtmmcikbedegigaaGreat
open Go.RowKit
set_option maxRecDepth 100000
set_option maxHeartbeats 4000000
def fa : Fl := ⟨1, 100, bsOf ⟨#[97]⟩, bsOf ⟨#[99]⟩, 1, 1⟩
def fb : Fl := ⟨2, 100, bsOf ⟨#[99]⟩, bsOf ⟨#[100]⟩, 1, 1⟩
def fc : Fl := ⟨2, 100, bsOf ⟨#[100]⟩, bsOf ⟨#[101]⟩, 1, 1⟩
def fx : Fl := ⟨1, 100, bsOf ⟨#[120]⟩, bsOf ⟨#[121]⟩, 1, 1⟩
def ver0 : List (List Fl) := [[], [], [], [], []]
def ver1 : List (List Fl) := [[], [fa], [], [], []]
def ver2 : List (List Fl) := [[], [fa, fb], [], [], []]
def ver3 : List (List Fl) := [[], [fa, fc], [], [], []]
theorem cmpac : cmpB (bsOf ⟨#[97]⟩) (bsOf ⟨#[99]⟩) = -1 := by decide
theorem cmpcc : cmpB (bsOf ⟨#[99]⟩) (bsOf ⟨#[99]⟩) = 0 := by decide
theorem cmpcd : cmpB (bsOf ⟨#[99]⟩) (bsOf ⟨#[100]⟩) = -1 := by decide
theorem okV0 : wrongVF ver0 1 0 0 = false := by decide
theorem okV1 : wrongVF ver1 2 0 0 = false := by decide
theorem badV2 : wrongVF ver2 3 0 0 = true := by decide
theorem okV3 : wrongVF ver3 3 0 0 = false := by decide
theorem keepAll (m : Nat → Option Int) (l : List Fl) (h : ∀ f ∈ l, (m f.no).isSome = true) : l.filter (keepF m) = l := List.filter_eq_self.2 h
theorem comes5 {a b c d e a' b' c' d' e' : List Fl} {A : List AddF} (h0 : a'.Perm (a ++ onF 0 A) ∧ sortedF 0 a') (h1 : b'.Perm (b ++ onF 1 A) ∧ sortedF 1 b') (h2 : c'.Perm (c ++ onF 2 A) ∧ sortedF 2 c') (h3 : d'.Perm (d ++ onF 3 A) ∧ sortedF 3 d') (h4 : e'.Perm (e ++ onF 4 A) ∧ sortedF 4 e') : Comes [a, b, c, d, e] A [a', b', c', d', e'] := by
  refine ⟨rfl, fun k l l' hl hl' => ?_⟩
  have hk := (List.getElem?_eq_some_iff.1 hl).1
  simp only [List.length_cons, List.length_nil] at hk
  rcases (by omega : k = 0 ∨ k = 1 ∨ k = 2 ∨ k = 3 ∨ k = 4) with rfl | rfl | rfl | rfl | rfl <;> (cases hl; cases hl')
  · exact h0
  · exact h1
  · exact h2
  · exact h3
  · exact h4
theorem sort0 (k : Nat) : sortedF k [] := fun i j x y _ hx => by simp at hx
theorem sort1 (k : Nat) (f : Fl) : sortedF k [f] := fun i j x y hij hx hy => by
  have h1 := (List.getElem?_eq_some_iff.1 hx).1
  have h2 := (List.getElem?_eq_some_iff.1 hy).1
  simp only [List.length_cons, List.length_nil] at h1 h2
  omega
theorem sort2 (k : Nat) (f g : Fl) (h : ¬ cmpF k g f < 0) : sortedF k [f, g] := fun i j x y hij hx hy => by
  have h1 := (List.getElem?_eq_some_iff.1 hx).1
  have h2 := (List.getElem?_eq_some_iff.1 hy).1
  simp only [List.length_cons, List.length_nil] at h1 h2
  obtain rfl : i = 0 := by omega
  obtain rfl : j = 1 := by omega
  cases hx; cases hy
  exact h
theorem ap1 : ApplyR ver0 1 0 0 [] [(1, fa)] 2 0 0 (some ver1) 0 :=
  .ok _ ver1 okV0 rfl (by decide) (by decide) (comes5 ⟨.refl _, sort0 0⟩ ⟨.refl _, sort1 1 fa⟩ ⟨.refl _, sort0 2⟩ ⟨.refl _, sort0 3⟩ ⟨.refl _, sort0 4⟩) okV1
theorem ap2 : ApplyR ver1 2 0 0 [] [(1, fb)] 3 0 0 none 2 :=
  .bad _ ver2 okV1 rfl (by decide) (by decide) (comes5 ⟨.refl _, sort0 0⟩ ⟨.refl _, sort2 1 fa fb (by decide)⟩ ⟨.refl _, sort0 2⟩ ⟨.refl _, sort0 3⟩ ⟨.refl _, sort0 4⟩) badV2
theorem ap3 : ApplyR ver1 2 0 0 [] [(1, fc)] 3 0 0 (some ver3) 0 :=
  .ok _ ver3 okV1 rfl (by decide) (by decide) (comes5 ⟨.refl _, sort0 0⟩ ⟨.refl _, sort2 1 fa fc (by decide)⟩ ⟨.refl _, sort0 2⟩ ⟨.refl _, sort0 3⟩ ⟨.refl _, sort0 4⟩) okV3
theorem ap4 : ApplyR ver3 3 0 0 [(1, 9)] [] 3 0 0 none 6 := .gone okV3 (by decide)
theorem ap5 : ApplyR ver1 2 0 0 [] [(1, fx)] 3 0 0 none 5 := .there _ okV1 rfl (by decide)
/-- Apply of an edit of one add, where what comes of it is known. -/
theorem apply_one (a : Option Addr) (c next seq log : Nat) (L : List Lv) (ga en : Nat) (x : Tf) (f : Fl) (VV : List (List Fl)) (r : Option (List (List Fl))) (er : Int) (w : World) (h : VerIn w a 5 L next seq log) (hL : flL L = VV) (hx : x.f = f) (hE : EdIn w none 0 (some ⟨ga, 0, none⟩) 1 [] [(1, x)] en 0 0) (hR : ApplyR VV next seq log [] [(1, f)] en 0 0 r er) (h1 : wt (fun _ => 1) VV + 1 ≤ 5000) (h2 : wt keyF VV + keyF f ≤ 600000) :
    Calls Tryz.prog 7 #[verAgg a 5 c next seq log, edAgg none 0 0 (some ⟨ga, 0, none⟩) 1 1 en 0 0] w fun e w' => Turns (fun _ => False) w w' ∧ ∃ v, e = .returned (.tuple #[v, .int .i64 er]) ∧ (r = none → v = zeroVer) ∧ (∀ LL', r = some LL' → ∃ G c L', v = verAgg (some ⟨G, 0, none⟩) 5 c en 0 0 ∧ flL L' = LL' ∧ VerIn w' (some ⟨G, 0, none⟩) 5 L' en 0 0 ∧ DR w' w.heap.size G 5 L') := by
  refine (apply_any a 5 c next seq log L none 0 0 (some ⟨ga, 0, none⟩) 1 1 en 0 0 [] [(1, x)] w h hE (by rw [cnt_wt, hL]; exact h1) (by rw [byts_wt, hL]; simp only [fA, List.map_cons, List.map_nil, List.sum_cons, List.sum_nil, hx]; omega)).mono fun e w' hh => ?_
  obtain ⟨t, v, er', r', rfl, hR', hn, hs⟩ := hh
  rw [hL, show fA [(1, x)] = [(1, f)] by simp [fA, hx]] at hR'
  obtain ⟨rfl, rfl⟩ := hR'.one hR
  refine ⟨t, v, rfl, hn, fun LL' e => ?_⟩
  exact hs LL' e
end Go.Proofs.YtmmcikbedegigaaGreat

/-
  A version is made anew of its whole edit; what was applied is read again: plain mathematics.
-/
namespace Go.Proofs.YtmmcikbedegigaaGreat
set_option maxRecDepth 100000
theorem okAdds_nodup : ∀ (l : List (Int × Nat)) (m : Nat → Option Int), (∀ d ∈ l, m d.2 = none) → (l.map Prod.snd).Nodup → okAdds m l = true
  | [], _, _, _ => rfl
  | a :: r, m, h, hn => by
    show ((m a.2).isNone && okAdds (upd m a.2 (some a.1)) r) = true
    rw [List.map_cons, List.nodup_cons] at hn
    rw [h a (by simp), okAdds_nodup r _ (fun d hd => ?_) hn.2]
    · rfl
    · unfold upd
      rw [if_neg fun e => hn.1 (by rw [← e]; exact List.mem_map.2 ⟨d, hd, rfl⟩)]
      exact h d (List.mem_cons_of_mem _ hd)
theorem nosF_whole (LL : List (List Fl)) : (nosF (wholeF LL)).map Prod.snd = numsF LL := by
  unfold nosF wholeF numsF
  rw [List.map_map]
  have : ∀ q, ((LL.zipIdx q).flatMap fun p => p.1.map fun f => ((p.2 : Int), f)).map (Prod.snd ∘ fun d : AddF => (d.1, d.2.no)) = LL.flatMap fun l => l.map fun f => f.no := by
    induction LL with
    | nil => intro q; rfl
    | cons x r ih =>
      intro q
      rw [List.zipIdx_cons, List.flatMap_cons, List.map_append, List.flatMap_cons, ih, List.map_map]
      rfl
  exact this 0
theorem onF_wholeFrom (LL : List (List Fl)) (q k : Nat) (l : List Fl) (h : LL[k]? = some l) : onF (q + k) ((LL.zipIdx q).flatMap fun p => p.1.map fun f => ((p.2 : Int), f)) = l := by
  have none_of : ∀ (M : List (List Fl)) (q j : Nat), j < q → onF j ((M.zipIdx q).flatMap fun p => p.1.map fun f => ((p.2 : Int), f)) = [] := fun M q j hj => by
    unfold onF
    rw [List.map_eq_nil_iff, List.filter_eq_nil_iff]
    intro d hd
    obtain ⟨p, hp, h2⟩ := List.mem_flatMap.1 hd
    obtain ⟨f, _, rfl⟩ := List.mem_map.1 h2
    have := (List.mem_zipIdx hp).1
    simp only [decide_eq_true_eq]
    omega
  have onF_append : ∀ (j : Nat) (A B : List AddF), onF j (A ++ B) = onF j A ++ onF j B := fun j A B => by unfold onF; rw [List.filter_append, List.map_append]
  have onF_same : ∀ (j : Nat) (x : List Fl), onF j (x.map fun f => ((j : Int), f)) = x := fun j x => by
    unfold onF
    rw [List.filter_eq_self.2 fun d hd => by obtain ⟨f, _, rfl⟩ := List.mem_map.1 hd; simp, List.map_map]
    exact List.map_id'' (fun _ => rfl) x
  have onF_other : ∀ (j i : Nat) (x : List Fl), i ≠ j → onF j (x.map fun f => ((i : Int), f)) = [] := fun j i x hij => by
    unfold onF
    rw [List.map_eq_nil_iff, List.filter_eq_nil_iff]
    intro d hd
    obtain ⟨f, _, rfl⟩ := List.mem_map.1 hd
    simp only [decide_eq_true_eq]
    omega
  induction LL generalizing q k with
  | nil => simp at h
  | cons x r ih =>
    rw [List.zipIdx_cons, List.flatMap_cons, onF_append]
    cases k with
    | zero =>
      obtain rfl : x = l := by simpa using h
      rw [none_of r (q + 1) (q + 0) (by omega), List.append_nil]
      exact onF_same q x
    | succ k =>
      rw [show q + (k + 1) = q + 1 + k by omega, ih (q + 1) k (by simpa using h)]
      rw [onF_other _ _ _ (by omega)]
      rfl
theorem onF_whole (LL : List (List Fl)) (k : Nat) (l : List Fl) (h : LL[k]? = some l) : onF k (wholeF LL) = l := by
  have := onF_wholeFrom LL 0 k l h
  rwa [Nat.zero_add] at this
theorem mem_wholeF {LL : List (List Fl)} {d : AddF} (h : d ∈ wholeF LL) : ∃ (k : Nat) (l : List Fl), LL[k]? = some l ∧ d.1 = (k : Int) ∧ d.2 ∈ l := by
  unfold wholeF at h
  obtain ⟨p, hp, h2⟩ := List.mem_flatMap.1 h
  obtain ⟨f, hf, rfl⟩ := List.mem_map.1 h2
  exact ⟨p.2, p.1, List.mem_zipIdx_iff_getElem?.1 hp, rfl, hf⟩
theorem sorted_of {lev : Nat} {l : List Fl} (h2 : ordF lev l = true) (h3 : ∀ x ∈ l, wrongF x = false) : sortedF lev l := by
  have hp := ordF_strict lev l h2 h3
  rw [List.pairwise_iff_getElem] at hp
  intro i j x y hij hx hy hlt
  obtain ⟨hi, rfl⟩ := List.getElem?_eq_some_iff.1 hx
  obtain ⟨hj, rfl⟩ := List.getElem?_eq_some_iff.1 hy
  have := cmpF_trans (hp i j hi hj hij) hlt
  unfold cmpF cmpN at this
  split at this
  · split at this
    · omega
    · simp at this
  · rw [(cmpB_zero _ _).2 rfl] at this
    omega
theorem whole_again {LL : List (List Fl)} {next seq log : Nat} (h : wrongVF LL next seq log = false) : ApplyR ver0 1 0 0 [] (wholeF LL) next seq log (some LL) 0 := by
  have hv0 : wrongVF ver0 1 0 0 = false := by decide
  have hl := len_of_ok h
  have hnd : (numsF LL).Nodup := by
    unfold wrongVF at h
    simp only [Bool.or_eq_false_iff, Bool.not_eq_false', decide_eq_true_eq] at h
    exact h.2
  have hm : ∀ j, mp (pairsF ver0) j = none := fun j => rfl
  have e0 : ver0.map (List.filter (keepF (mp (pairsF ver0)))) = ver0 := rfl
  refine ApplyR.ok (mp (pairsF ver0)) LL hv0 rfl ?_ ?_ ?_ h
  · rw [e0]
    exact okAdds_nodup _ _ (fun d _ => hm _) (by rw [nosF_whole]; exact hnd)
  · rw [List.all_eq_true]
    intro d hd
    obtain ⟨k, l, hk, e, _⟩ := mem_wholeF hd
    have := (List.getElem?_eq_some_iff.1 hk).1
    unfold goodLev
    simp only [Bool.and_eq_true, decide_eq_true_eq]
    omega
  · rw [e0]
    refine ⟨hl, fun k l l' hk hk' => ?_⟩
    have hwl := wrongVF_lev h hk'
    unfold wrongLF at hwl
    simp only [Bool.or_eq_false_iff, Bool.not_eq_false'] at hwl
    have hb : ∀ x ∈ l', wrongF x = false := fun z hz => by have := List.any_eq_false.1 hwl.1.1 z hz; simpa using this
    refine ⟨?_, sorted_of hwl.2 hb⟩
    rw [onF_whole LL k l' hk']
    have : l = [] := by
      have hk5 := (List.getElem?_eq_some_iff.1 hk).1
      have hk6 : k < 5 := hk5
      match k, hk6, hk with
      | 0, _, hk => exact (Option.some.inj hk).symm
      | 1, _, hk => exact (Option.some.inj hk).symm
      | 2, _, hk => exact (Option.some.inj hk).symm
      | 3, _, hk => exact (Option.some.inj hk).symm
      | 4, _, hk => exact (Option.some.inj hk).symm
    rw [this]
    exact List.Perm.refl _
theorem okFile_of {f : Fl} (h : wrongF f = false) : 0 ≤ f.size ∧ f.size ≤ 4611686018427387904 ∧ 0 ≤ f.ents ∧ f.ents ≤ 4611686018427387904 ∧ f.seq ≤ 4611686018427387904 ∧ f.least.length ≤ 1048576 ∧ f.most.length ≤ 1048576 := by
  have := wrongF_false h
  omega
theorem head_of {LL : List (List Fl)} {next seq log : Nat} (h : wrongVF LL next seq log = false) : 1 ≤ next ∧ next ≤ 1000000000000 ∧ seq ≤ 72057594037927935 ∧ log < 1000000000000 := by
  unfold wrongVF headBad at h
  simp only [Bool.or_eq_false_iff, decide_eq_false_iff_not] at h
  omega
theorem file_of {LL : List (List Fl)} {next seq log : Nat} (h : wrongVF LL next seq log = false) {k : Nat} {l : List Fl} (hk : LL[k]? = some l) {f : Fl} (hf : f ∈ l) : wrongF f = false ∧ f.no < next := by
  have hwl := wrongVF_lev h hk
  unfold wrongLF at hwl
  simp only [Bool.or_eq_false_iff] at hwl
  have h1 := List.any_eq_false.1 hwl.1.1 f hf
  have h2 := List.any_eq_false.1 hwl.1.2 f hf
  simp only [newF, decide_eq_true_eq] at h2
  exact ⟨by simpa using h1, by omega⟩
/-- What was applied has numbers that are read again. -/
theorem applied_ok {LL : List (List Fl)} {next seq log : Nat} {D : List (Int × Nat)} {A : List AddF} {en es el : Nat} {LL' : List (List Fl)} {e : Int} (h : ApplyR LL next seq log D A en es el (some LL') e) : e = 0 ∧ wrongVF LL next seq log = false ∧ wrongVF LL' en es el = false ∧ (∀ d ∈ A, okAdd d) ∧ ∃ m, dropsP (mp (pairsF LL)) D = some m := by
  rcases h with ⟨_, e1, _⟩ | ⟨h0, h⟩
  · cases e1
  rcases h with ⟨_, e1, _⟩ | ⟨m, hd, h⟩
  · cases e1
  rcases h with ⟨_, e1, _⟩ | ⟨ho, h⟩
  · cases e1
  rcases h with ⟨_, e1, _⟩ | ⟨hg, X, hX, h⟩
  · cases e1
  rcases h with ⟨_, e1, _⟩ | ⟨hw, e1, e2⟩
  · cases e1
  obtain rfl : LL' = X := Option.some.inj e1
  refine ⟨e2, h0, hw, fun d hdA => ?_, m, hd⟩
  have hgl := List.all_eq_true.1 hg d hdA
  unfold goodLev at hgl
  simp only [Bool.and_eq_true, decide_eq_true_eq] at hgl
  obtain ⟨k, hk⟩ : ∃ k : Nat, d.1 = (k : Int) := ⟨d.1.toNat, by omega⟩
  have hk5 : k < 5 := by omega
  have hl0 : (LL.map (List.filter (keepF m))).length = 5 := by rw [List.length_map]; exact len_of_ok h0
  obtain ⟨l, hl⟩ : ∃ l, (LL.map (List.filter (keepF m)))[k]? = some l := ⟨_, List.getElem?_eq_getElem (by omega)⟩
  obtain ⟨l', hl'⟩ : ∃ l, LL'[k]? = some l := ⟨_, List.getElem?_eq_getElem (by rw [hX.1]; omega)⟩
  have hp := (hX.2 k l l' hl hl').1
  have hmem : d.2 ∈ l' := hp.mem_iff.2 (List.mem_append_right _ (by unfold onF; exact List.mem_map.2 ⟨d, List.mem_filter.2 ⟨hdA, by simp [hk]⟩, rfl⟩))
  obtain ⟨hwf, hno⟩ := file_of hw hl' hmem
  have hb := okFile_of hwf
  have hh := head_of hw
  exact ⟨by omega, by omega, by omega, hb.1, hb.2.1, hb.2.2.1, hb.2.2.2.1, hb.2.2.2.2.1, hb.2.2.2.2.2.1, hb.2.2.2.2.2.2⟩
theorem dropsP_mem : ∀ (D : List (Int × Nat)) (m m' : Nat → Option Int), dropsP m D = some m' → ∀ d ∈ D, m d.2 = some d.1
  | [], _, _, _, d, hd => by simp at hd
  | a :: r, m, m', h, d, hd => by
    have h' : (if m a.2 = some a.1 then dropsP (upd m a.2 none) r else none) = some m' := h
    split at h'
    · rename_i h1
      rcases List.mem_cons.1 hd with rfl | hd
      · exact h1
      · have := dropsP_mem r _ _ h' d hd
        unfold upd at this
        split at this
        · cases this
        · exact this
    · cases h'
theorem mp_mem (ps : List (Nat × Int)) (k : Nat) (v : Int) : mp ps k = some v → (k, v) ∈ ps := by
  induction ps using snocRec with
  | nil => intro h; simp [mp] at h
  | snoc r p ih =>
    obtain ⟨j, u⟩ := p
    intro h
    rw [mp_snoc] at h
    unfold upd at h
    split at h
    · rename_i e
      cases h
      subst e
      simp
    · exact List.mem_append_left _ (ih h)
theorem drops_ok {LL : List (List Fl)} {next seq log : Nat} {D : List (Int × Nat)} {m : Nat → Option Int} (h0 : wrongVF LL next seq log = false) (hd : dropsP (mp (pairsF LL)) D = some m) : ∀ d ∈ D, okDrop d := fun d hdm => by
  have h1 := mp_mem _ _ _ (dropsP_mem D _ _ hd d hdm)
  unfold pairsF at h1
  obtain ⟨p, hp, h2⟩ := List.mem_flatMap.1 h1
  obtain ⟨f, hf, e⟩ := List.mem_map.1 h2
  have hk := List.mem_zipIdx_iff_getElem?.1 hp
  have hk5 := (List.getElem?_eq_some_iff.1 hk).1
  have hl := len_of_ok h0
  obtain ⟨_, hno⟩ := file_of h0 hk hf
  have hh := head_of h0
  have e1 := congrArg Prod.fst e
  have e2 := congrArg Prod.snd e
  simp only at e1 e2
  refine ⟨?_, ?_, ?_⟩ <;> omega
theorem whole_ok {LL : List (List Fl)} {next seq log : Nat} (h : wrongVF LL next seq log = false) : ∀ d ∈ wholeF LL, okAdd d := fun d hd => by
  obtain ⟨k, l, hk, e, hf⟩ := mem_wholeF hd
  obtain ⟨hwf, hno⟩ := file_of h hk hf
  have hb := okFile_of hwf
  have hh := head_of h
  have hl := len_of_ok h
  have hk5 := (List.getElem?_eq_some_iff.1 hk).1
  exact ⟨by omega, by omega, by omega, hb.1, hb.2.1, hb.2.2.1, hb.2.2.2.1, hb.2.2.2.2.1, hb.2.2.2.2.2.1, hb.2.2.2.2.2.2⟩
end Go.Proofs.YtmmcikbedegigaaGreat
