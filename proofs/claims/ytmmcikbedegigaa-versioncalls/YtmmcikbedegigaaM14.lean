import Derived.Test.YtmmcikbedegigaaM13
import Derived.Test.YtmmcikbedegigaaM04
/-
  The files of a list are sorted.
-/
namespace Go.Proofs.Ytmmcikbedegigaa
open Go.RowKit Go.Shelf Go.Lib
open Go.Sort (grow SWO PermIn SortedIn)
set_option maxRecDepth 100000
set_option maxHeartbeats 4000000
/-- The order of a level. -/
def cmpF (lev : Nat) (a b : Fl) : Int := if lev = 0 then cmpN a.no b.no else cmpB a.least b.least
theorem sort1_any (lev V : Nat) (x y : Tf) (w : World) (hv : w.cell? ⟨V, 0, none⟩ = some (.int .i64 (lev : Nat))) (h : FB w x) (h' : FB w y) :
    Calls Try.prog 73 #[x.agg, y.agg, .pointer (some ⟨V, 0, none⟩)] w fun e w' => e = .returned (.int .i64 (cmpF lev x.f y.f)) ∧ ∃ q os', w' = grow (w.drewN q) os' := by
  obtain ⟨la, lc, ma, mc, ⟨no, sz, ls, ms, en, sq⟩⟩ := x
  obtain ⟨la', lc', ma', mc', ⟨no', sz', ls', ms', en', sq'⟩⟩ := y
  have TA := hide (((Turns.refl (fun _ => False) w).alloc (.cells #[.int .u64 (no : Nat), .int .i64 sz, .slice la ls.length lc, .slice ma ms.length mc, .int .i64 en, .int .u64 (sq : Nat)] 37)).alloc (.cells #[.int .u64 (no' : Nat), .int .i64 sz', .slice la' ls'.length lc', .slice ma' ms'.length mc', .int .i64 en', .int .u64 (sq' : Nat)] 37))
  have CB := hide (compareB_any la la' ls.length ls'.length lc lc' ls ls' _ (h.quiet TA.out).1 (h'.quiet TA.out).1)
  have hv2 := TA.out.cell hv (fun x => x)
  unfold Tf.agg
  simp only
  clear h h' hv
  by_cases hl : lev = 0
  · subst hl
    have C64 := hide (cmp64_any no no')
    go_enter Try.func73, Try.ntmps73
    go_wp2_with fail
    refine (C64.out _).mono ?_
    rintro e w1 ⟨rfl, rfl⟩
    go_wp2_with fail
    go_ret
    exact ⟨rfl, 0, _, by rw [Go.Sort.alloc_eq_grow, Go.Sort.alloc_eq_grow, Go.Sort.grow_grow]; rfl⟩
  · have hli : ¬ (lev : Int) = 0 := by omega
    go_enter Try.func73, Try.ntmps73
    go_wp2_with fail
    refine CB.out.mono ?_
    rintro e w1 ⟨rfl, rfl⟩
    go_wp2_with fail
    go_ret
    exact ⟨by simp [cmpF, hl], 0, _, by rw [Go.Sort.alloc_eq_grow, Go.Sort.alloc_eq_grow, Go.Sort.grow_grow]; rfl⟩
theorem cmpF_swo (lev : Nat) (p : Tf → Prop) : SWO (ltOf fun (x y : {x : Tf // p x}) => cmpF lev x.1.f y.1.f) := by
  have hB : ∀ a b c : List (BitVec 8), ¬ cmpB a b < 0 → ¬ cmpB b c < 0 → ¬ cmpB a c < 0 := fun a b c h1 h2 h3 => by
    have h4 : cmpB a c = -1 := by rcases cmpB_vals a c with h | h | h <;> omega
    have e1 := cmpB_swap a b
    have e2 := cmpB_swap b c
    rcases cmpB_vals a b with h | h | h
    · omega
    · rw [(cmpB_zero a b).1 h] at h4; omega
    · have h5 : cmpB b a = -1 := by omega
      have := cmpB_lt h5 h4
      omega
  refine ⟨fun x => ?_, fun x y z h1 h2 => ?_, fun x y z h1 h2 => ?_⟩
  · have := (cmpB_zero x.1.f.least x.1.f.least).2 rfl
    unfold ltOf cmpF cmpN
    split <;> simp [this]
  · unfold ltOf cmpF cmpN at *
    by_cases hl : lev = 0
    · simp only [hl, if_true, decide_eq_true_eq] at *; split at h1 <;> split at h2 <;> (try split at h1) <;> (try split at h2) <;> split <;> (try split) <;> omega
    · simp only [hl, if_false, decide_eq_true_eq] at *
      have e1 : cmpB x.1.f.least y.1.f.least = -1 := by rcases cmpB_vals x.1.f.least y.1.f.least with h | h | h <;> omega
      have e2 : cmpB y.1.f.least z.1.f.least = -1 := by rcases cmpB_vals y.1.f.least z.1.f.least with h | h | h <;> omega
      have := cmpB_lt e1 e2
      omega
  · unfold ltOf cmpF cmpN at *
    by_cases hl : lev = 0
    · simp only [hl, if_true, decide_eq_false_iff_not] at *; split at h1 <;> split at h2 <;> (try split at h1) <;> (try split at h2) <;> split <;> (try split) <;> omega
    · simp only [hl, if_false, decide_eq_false_iff_not] at *
      exact hB _ _ _ h1 h2
end Go.Proofs.Ytmmcikbedegigaa

/-
  The files of a list are sorted: the library's contract at a row of files.
-/
namespace Go.Proofs.Ytmmcikbedegigaa
open Go.RowKit Go.Shelf Go.Lib
open Go.Sort (grow SWO PermIn SortedIn flatK HoldsK putRowK)
set_option maxRecDepth 100000
set_option maxHeartbeats 4000000
section
variable {α : Type} [Inhabited α]
theorem sortWorld_turns (enc : α → List Value) (w : World) (g m : Nat) (d : Array α) (os : Array Obj) : Turns (fun j => j = g) w (sortWorldK enc 6 w g 0 m d os) := by
  refine ⟨rfl, rfl, rfl, ?_, fun k hk hn => ?_⟩
  · unfold sortWorldK; rw [Go.Sort.size_grow]; unfold Go.Sort.putRowK; rw [Go.Sort.size_putRow]; exact Nat.le_add_right _ _
  · unfold sortWorldK
    rw [Go.Sort.heap_grow_old _ _ (by unfold Go.Sort.putRowK; rw [Go.Sort.size_putRow]; exact hk)]
    unfold Go.Sort.putRowK Go.Sort.putRow Go.Sort.mapBlock
    simp only [Array.getElem?_modify]
    rw [if_neg (fun e => hn e.symm)]
    rfl
theorem sortWorld_row (enc : α → List Value) (w : World) (g m : Nat) (d : Array α) (os : Array Obj) (cs : Array Value) (h : w.heap[g]? = some (.cells cs 37 (0, 0))) : (sortWorldK enc 6 w g 0 m d os).heap[g]? = some (.cells (Go.Sort.putCells id 0 (flatK enc 6 d) cs) 37 (0, 0)) := by
  have hg := lt_of_heap h
  unfold sortWorldK
  rw [Go.Sort.heap_grow_old _ _ (by unfold Go.Sort.putRowK; rw [Go.Sort.size_putRow]; exact hg)]
  unfold Go.Sort.putRowK Go.Sort.putRow Go.Sort.mapBlock
  simp only [Array.getElem?_modify, if_true]
  show Option.map _ w.heap[g]? = _
  rw [h]
  rfl
end
theorem ins_none (p : Option Addr) (cap : Nat) (fv : Value) (w : World) : Calls Try.prog 85 #[.slice p 0 cap, .int .i64 0, .int .i64 0, fv] w fun e w' => e = .returned (.tuple #[]) ∧ w' = w := by
  go_enter Try.func85, Try.ntmps85
  go_wp2_with fail
  refine wp_loop_rounds 1 ?_
  rw [rounds_succ]
  go_wp2_with fail
  refine bodyPost_end (results_none Try.results85 _ _ _) rfl ?_
  exact ⟨rfl, rfl⟩
theorem pdq_none (p : Option Addr) (cap : Nat) (L : Int) (fv : Value) (w : World) : Calls Try.prog 81 #[.slice p 0 cap, .int .i64 0, .int .i64 0, .int .i64 L, fv] w fun e w' => e = .returned (.tuple #[]) ∧ w' = w := by
  go_enter Try.func81, Try.ntmps81
  go_wp2_with fail
  refine wp_loop_once ?_
  go_wp2_with fail
  refine (ins_none p cap fv _).mono ?_
  rintro e w1 ⟨rfl, rfl⟩
  go_wp2_with fail
  refine bodyPost_ret (results_none Try.results81 _ _ _) rfl ?_
  exact ⟨rfl, rfl⟩
theorem sort_none (p : Option Addr) (cap : Nat) (fv : Value) (w : World) : Calls Try.prog 72 #[.slice p 0 cap, fv] w fun e w' => e = .returned (.tuple #[]) ∧ w' = w := by
  go_enter Try.func72, Try.ntmps72
  go_wp2_with fail
  refine (len_any 0 (by decide) _).mono ?_
  rintro e w1 ⟨rfl, rfl⟩
  go_wp2_with fail
  refine (pdq_none p cap _ fv _).mono ?_
  rintro e w1 ⟨rfl, rfl⟩
  go_wp2_with fail
  go_end0
  exact ⟨rfl, rfl⟩
/-- Sorted by a level's order. -/
def SortF (lev : Nat) (R : List Tf) : Prop := ∀ (i j : Nat) (x y : Tf), i < j → R[i]? = some x → R[j]? = some y → ¬ cmpF lev y.f x.f < 0
theorem sortFunc_any (lev V g c B : Nat) (R : List Tf) (w : World) (hr : RowC w g 37 (c * 6) (flCells R)) (hlc : R.length ≤ c) (hft : ∀ x ∈ R, FT w B x) (hv : w.heap[V]? = some (.cells #[.int .i64 (lev : Nat)] 3 (0, 0))) (hn : R.length ≤ 1000000) :
    Calls Try.prog 72 #[.slice (some ⟨g, 0, none⟩) R.length c, .func (.func 73) #[] #[.pointer (some ⟨V, 0, none⟩)]] w fun e w' => e = .returned (.tuple #[]) ∧ ∃ R', R'.Perm R ∧ SortF lev R' ∧ RowC w' g 37 (c * 6) (flCells R') ∧ Turns (fun j => j = g) w w' := by
  cases hR : R with
  | nil =>
    subst hR
    exact (sort_none (some ⟨g, 0, none⟩) c _ w).mono fun e w' ⟨h1, h2⟩ => by
      subst h2
      exact ⟨h1, [], .refl _, fun i j x y _ hx => by simp at hx, hr, Turns.refl _ _⟩
  | cons x0 r0 =>
    rw [← hR]
    have hx0 : FT w B x0 := hft x0 (by rw [hR]; simp)
    have inh : Inhabited {x : Tf // FT w B x} := ⟨⟨x0, hx0⟩⟩
    obtain ⟨cs, hg, hsz, hcs⟩ := hr
    have hgl := lt_of_heap hg
    let enc : {x : Tf // FT w B x} → List Value := fun x => x.1.cells
    let d : Array {x : Tf // FT w B x} := (R.attach.map fun x => (⟨x.1, hft x.1 x.2⟩ : {x : Tf // FT w B x})).toArray
    have hds : d.size = R.length := by simp [d]
    have hdl : d.toList.map (·.1) = R := by simp [d]
    have hVg : V ≠ g := fun e => by rw [e, hg] at hv; cases hv
    have hVl := lt_of_heap hv
    have eg : ∀ args w, (callFunc 73 args).run Try.prog w = .ok (.enter 73 args) w := enters_of Try.func73 (by kernel_rfl) rfl
    have hcmp : CmpLays Try.prog 73 #[.pointer (some ⟨V, 0, none⟩)] enc 6 (fun x y => cmpF lev x.1.f y.1.f) g 0 d.size w := fun m os dk _ x y => by
      have t := sortWorld_turns enc w g m dk os
      have hne : ∀ z : {x : Tf // FT w B x}, FB (sortWorldK enc 6 w g 0 m dk os) z.1 := fun z => (z.2.keep t fun k e _ cs' z' e2 => by subst e; rw [hg] at e2; cases e2).fb
      exact sort1_any lev V x.1 y.1 _ (t.cell (cell_of_row w V 0 _ 3 (0, 0) hv) hVg) (hne x) (hne y)
    have hat : ∀ (dd : Array {x : Tf // FT w B x}) (j : Nat), j < dd.size * 6 → (flCells (dd.toList.map (·.1)))[j]? = some (flatK enc 6 dd)[j]! := fun dd j hj => by
      have hq : j / 6 < dd.size := by omega
      rw [Go.Sort.get_flatK enc 6 dd j hj]
      have h1 := flCells_at (dd.toList.map (·.1)) (j / 6) dd[j / 6]!.1 (by simp [hq]) (j % 6) (by omega)
      rw [show j / 6 * 6 + j % 6 = j by omega] at h1
      rw [h1]
      show _ = some (dd[j / 6]!.1.cells)[j % 6]!
      rw [List.getElem?_eq_getElem (by rw [Tf.cells_length]; omega), List.getElem!_eq_getElem?_getD, List.getElem?_eq_getElem (by rw [Tf.cells_length]; omega)]
      rfl
    have hH : HoldsK enc 6 w g 0 d := fun j hj => by
      rw [Go.Sort.size_flatK] at hj
      refine ⟨?_, by rw [Nat.zero_add]; exact frozen_of_row w g j _ 37 hg⟩
      rw [Nat.zero_add, cell_of_row w g j cs 37 (0, 0) hg, hcs j (by rw [flCells_length]; omega)]
      have := hat d j hj
      rw [hdl] at this
      exact this
    have hcon := AnyQ.slices_SortFunc Try.sort72 6 Try.isAgg37 Try.sizeOf37 enc (fun x => x.1.cells_length) (fun x v hv => x.1.cells_one v hv) (fun x y => cmpF lev x.1.f y.1.f) (cmpF_swo lev _) 73 #[.pointer (some ⟨V, 0, none⟩)] g 0 c d w eg hcmp hH hgl (by omega)
    rw [hds] at hcon
    refine (show Calls Try.prog 72 _ _ _ from hcon).mono fun e w' h => ?_
    obtain ⟨h1, d', n, os, hp, hs, rfl⟩ := h
    have hd's : d'.size = R.length := by rw [hp.1, hds]
    refine ⟨h1, d'.toList.map (·.1), ?_, fun i j x y hij hx hy => ?_, ⟨_, sortWorld_row enc w g n d' os cs hg, ?_, fun k hk => ?_⟩, sortWorld_turns enc w g n d' os⟩
    · have h2 := hp.2.2
      rw [← hds, Array.extract_size] at h2
      rw [show d.size = d'.size by omega, Array.extract_size] at h2
      have h3 := h2.map (·.1)
      rw [hdl] at h3
      exact h3
    · have hi : i < d'.size := by have := (List.getElem?_eq_some_iff.1 hx).1; simpa using this
      have hj : j < d'.size := by have := (List.getElem?_eq_some_iff.1 hy).1; simpa using this
      have h2 := hs i j (Nat.zero_le _) hij (by omega)
      simp [hi] at hx
      simp [hj] at hy
      unfold ltOf at h2
      simp only [decide_eq_false_iff_not] at h2
      rw [getElem!_pos d' i hi, getElem!_pos d' j hj] at h2
      rw [← hx, ← hy]
      exact h2
    · simp [Go.Sort.putCells]; exact hsz
    · rw [flCells_length, List.length_map, Array.length_toList] at hk
      have hkc : k < cs.size := by omega
      rw [hat d' k hk]
      simp only [Go.Sort.putCells, Array.getElem?_mapIdx, Array.getElem?_eq_getElem hkc, Option.map_some, id]
      rw [if_pos ⟨Nat.zero_le _, by rw [Go.Sort.size_flatK]; omega⟩, Nat.sub_zero]
end Go.Proofs.Ytmmcikbedegigaa

/-
  The lists are sorted.
-/
namespace Go.Proofs.Ytmmcikbedegigaa
open Go.RowKit Go.Shelf
set_option maxRecDepth 100000
set_option maxHeartbeats 4000000
/-- One list is put in another order. -/
theorem DR.again {w w' : World} {B G N k : Nat} {L : List Lv} (h : DR w B G N L) {x : Lv} (hx : L[k]? = some x) (t : Turns (fun j => x.a = some ⟨j, 0, none⟩) w w') {R' : List Tf} (hr : RowOk w' B x.a x.c R') (hl : R'.length = x.l.length) (hf : ∀ y ∈ R', FT w' B y) : DR w' B G N (L.set k ⟨x.a, x.c, R'⟩) := by
  have hkl := (List.getElem?_eq_some_iff.1 hx).1
  obtain ⟨cs, h1, h2, h3⟩ := h.head
  have hG' : w'.heap[G]? = some (.cells cs 50 (0, 0)) := t.heap h1 (fun e => (h.rows k x hx).ne h1 (by decide) G e rfl)
  have hat : ∀ (j : Nat) (y : Lv), (L.set k ⟨x.a, x.c, R'⟩)[j]? = some y → (j ≠ k ∧ L[j]? = some y) ∨ (j = k ∧ y = ⟨x.a, x.c, R'⟩) := fun j y hy => by
    by_cases hj : j = k
    · subst hj; rw [List.getElem?_set_self hkl] at hy; exact .inr ⟨rfl, (Option.some.inj hy).symm⟩
    · rw [List.getElem?_set_ne (by omega)] at hy; exact .inl ⟨hj, hy⟩
  have hrow : ∀ (j : Nat) (y : Lv), j ≠ k → L[j]? = some y → RowOk w' B y.a y.c y.l := fun j y hj hy => (h.rows j y hy).keep t fun g e e2 => h.apart j k y x hj hy hx g e e2
  refine ⟨⟨cs, hG', h2, fun j y hy => ?_⟩, h.hG, fun j y hy => ?_, fun i j y z hij hy hz g e => ?_, fun y hy z hz => ?_⟩
  · rcases hat j y hy with ⟨hj, hy⟩ | ⟨rfl, rfl⟩
    · exact h3 j y hy
    · simp only [hl]; exact h3 j x hx
  · rcases hat j y hy with ⟨hj, hy⟩ | ⟨rfl, rfl⟩
    · exact hrow j y hj hy
    · exact hr
  · rcases hat i y hy with ⟨hi, hy1⟩ | ⟨rfl, rfl⟩
    · rcases hat j z hz with ⟨hj, hz1⟩ | ⟨rfl, rfl⟩
      · exact h.apart i j y z hij hy1 hz1 g e
      · exact h.apart i j y x hi hy1 hx g e
    · rcases hat j z hz with ⟨hj, hz1⟩ | ⟨rfl, rfl⟩
      · exact h.apart i j x z hij hx hz1 g e
      · omega
  · obtain ⟨j, hj⟩ := List.getElem?_of_mem hy
    rcases hat j y hj with ⟨hj2, hy1⟩ | ⟨rfl, rfl⟩
    · exact (h.files y (List.mem_of_getElem? hy1) z hz).keep t fun j e _ cs' z' e2 => (h.rows k x hx).ne e2 (by decide) j e rfl
    · exact hf z hz
theorem sort_any (G c B : Nat) (L : List Lv) (w : World) (h : DR w B G 5 L) (hl : L.length = 5) (hc : cnt L ≤ 100000) :
    Calls Try.prog 55 #[.agg #[.slice (some ⟨G, 0, none⟩) 5 c]] w fun e w' => e = .returned (.tuple #[]) ∧ ∃ L', L'.length = 5 ∧ DR w' B G 5 L' ∧ (∀ (k : Nat) (x x' : Lv), L[k]? = some x → L'[k]? = some x' → x'.l.Perm x.l ∧ SortF k x'.l ∧ x'.a = x.a) ∧ Turns (own G L) w w' := by
  have TA := hide ((Turns.refl (fun _ => False) w).alloc (.cells #[.slice (some ⟨G, 0, none⟩) 5 c] 54))
  have H := hide (h.quiet TA.out)
  have HL := hide hl
  have HC := hide hc
  clear h hl hc
  go_enter Try.func55, Try.ntmps55
  go_wp2_with fail
  generalize w.alloc (.cells #[.slice (some ⟨G, 0, none⟩) 5 c] 54) = w0 at *
  go_loopw [7] (fun i wr => ∃ (k : Nat) (L2 : List Lv), i = .int .i64 (k : Nat) ∧ k ≤ 5 ∧ L2.length = 5 ∧ DR wr B G 5 L2 ∧ (∀ (j : Nat) (x x' : Lv), L[j]? = some x → L2[j]? = some x' → x'.l.Perm x.l ∧ (j < k → SortF j x'.l) ∧ x'.a = x.a) ∧ Turns (own G L) w wr) (fun i _ => 5 - (intOf i).toNat)
  case atStart => exact ⟨0, L, rfl, Nat.zero_le _, HL.out, H.out, fun j x x' hx hx' => by rw [hx] at hx'; cases hx'; exact ⟨.refl _, fun h => by omega, rfl⟩, TA.out.mono fun _ _ x => x.elim⟩
  case round =>
    obtain ⟨k, L2, rfl, hk, hl2, hd, hp, ht⟩ := hrel
    have HL2 := hide hl2
    have HD := hide hd
    have HP := hide hp
    have HT := hide ht
    clear hl2 hd hp ht
    by_cases hkn : k < 5
    · obtain ⟨x, hx⟩ : ∃ x, L2[k]? = some x := ⟨_, List.getElem?_eq_getElem (by have := HL2.out; omega)⟩
      obtain ⟨x0, hx0⟩ : ∃ x, L[k]? = some x := ⟨_, List.getElem?_eq_getElem (by have := HL.out; omega)⟩
      have hpx := HP.out k x0 x hx0 hx
      have hxl : x.l.length ≤ 1000000 := by
        have h1 := hpx.1.length_eq
        have := cnt_take hx0; have := cnt_take_le L (k + 1); have := HC.out; omega
      obtain ⟨⟨b, off, e, hcl⟩, _⟩ := HD.out.levs k x hx
      cases e
      rw [Nat.zero_add] at hcl
      have i1 : (k : Int) < 5 := by omega
      have i0 : (0 : Int) ≤ k := by omega
      have TV := hide ((Turns.refl (fun _ => False) wr).alloc (.cells #[.int .i64 (k : Nat)] 3))
      have RV := hide (heap_alloc_new wr (.cells #[.int .i64 (k : Nat)] 3))
      have CS := hide (show Calls Try.prog 72 #[.slice x.a x.l.length x.c, .func (.func 73) #[] #[.pointer (some ⟨wr.heap.size, 0, none⟩)]] (wr.alloc (.cells #[.int .i64 (k : Nat)] 3)) fun e w' => e = .returned (.tuple #[]) ∧ ∃ R', R'.Perm x.l ∧ SortF k R' ∧ RowOk w' B x.a x.c R' ∧ Turns (fun j => x.a = some ⟨j, 0, none⟩) wr w' from by
        rcases (HD.out.rows k x hx).keep TV.out (fun _ _ x => x) with ⟨e1, e2, e3⟩ | ⟨g, e1, e2, e3, hrow⟩
        · rw [e1, e2, e3]
          exact (sort_none none 0 _ _).mono fun e w' ⟨q1, q2⟩ => by
            subst q2
            exact ⟨q1, [], .refl _, fun i j x y _ hx => by simp at hx, .inl ⟨rfl, rfl, rfl⟩, TV.out.mono fun _ _ x => x.elim⟩
        · rw [e1]
          exact (sortFunc_any k wr.heap.size g x.c B x.l _ hrow e3 (fun y hy => (HD.out.files x (List.mem_of_getElem? hx) y hy).quiet TV.out) RV.out hxl).mono fun e w' ⟨q1, R', q2, q3, q4, q5⟩ =>
            ⟨q1, R', q2, q3, .inr ⟨g, rfl, e2, by rw [q2.length_eq]; exact e3, q4⟩, (TV.out.mono fun _ _ x => x.elim).trans (q5.mono fun j _ e => by rw [e])⟩)
      have HX := hide hx
      have HX0 := hide hx0
      have HPX := hide hpx
      obtain ⟨xa, xc, xl⟩ := x
      simp only at *
      generalize xl.length = XL at *
      clear hx hx0 hpx hxl
      go_wp2_with fail
      refine CS.out.mono ?_
      rintro e w1 ⟨rfl, R', hp, hs, hro, htn⟩
      have REL := hide (show ∃ L3 : List Lv, L3.length = 5 ∧ DR w1 B G 5 L3 ∧ (∀ (j : Nat) (x x' : Lv), L[j]? = some x → L3[j]? = some x' → x'.l.Perm x.l ∧ (j < k + 1 → SortF j x'.l) ∧ x'.a = x.a) ∧ Turns (own G L) w w1 from by
        have hkl := (List.getElem?_eq_some_iff.1 HX.out).1
        refine ⟨L2.set k ⟨xa, xc, R'⟩, by rw [List.length_set]; exact HL2.out, HD.out.again HX.out htn hro hp.length_eq (fun y hy => (HD.out.files _ (List.mem_of_getElem? HX.out) y (hp.mem_iff.1 hy)).keep htn fun j e _ cs' z' e2 => (HD.out.rows k _ HX.out).ne e2 (by decide) j e rfl), fun j y y' hy hy' => ?_, HT.out.trans (htn.mono fun j _ e => .inr ⟨k, x0, HX0.out, ?_⟩)⟩
        · by_cases hj : j = k
          · subst hj
            rw [List.getElem?_set_self hkl] at hy'
            cases hy'
            rw [HX0.out] at hy
            cases hy
            exact ⟨hp.trans HPX.out.1, fun _ => hs, HPX.out.2.2⟩
          · rw [List.getElem?_set_ne (by omega)] at hy'
            have h1 := HP.out j y y' hy hy'
            exact ⟨h1.1, fun h => h1.2.1 (by omega), h1.2.2⟩
        · rw [← HPX.out.2.2]; exact e)
      clear hp hs hro htn CS
      go_wp2_with fail
      obtain ⟨L3, r1, r2, r3, r4⟩ := REL.out
      go_roundw
      case rel => exact ⟨k + 1, L3, by go_num, by omega, r1, r2, r3, r4⟩
      case measure => simp [intOf]; omega
    · obtain rfl : k = 5 := by omega
      go_wp2_with fail
      go_end0
      refine ⟨rfl, L2, HL2.out, HD.out, fun j x x' hx hx' => ?_, HT.out⟩
      have h1 := HP.out j x x' hx hx'
      exact ⟨h1.1, h1.2.1 (by have := (List.getElem?_eq_some_iff.1 hx).1; have := HL.out; omega), h1.2.2⟩
end Go.Proofs.Ytmmcikbedegigaa

/-
  Adds in memory; one file more at the end of a list.
-/
namespace Go.Proofs.Ytmmcikbedegigaa
open Go.RowKit
set_option maxRecDepth 100000
set_option maxHeartbeats 4000000
theorem append_fl (w : World) (B : Nat) (a : Option Addr) (c : Nat) (R : List Tf) (h : RowOk w B a c R) (hB : B ≤ w.heap.size) (hlen : R.length ≤ 1000000) (y : Tf) (g cy : Nat) (hg : w.heap[g]? = some (.cells y.cells.toArray 37 (0, 0))) :
    ∃ (a' : Option Addr) (n' c' : Nat) (w' : World), (∀ ty, (Builtin.append_ #[50, 50] ty #[.slice a R.length c, .slice (some ⟨g, 0, none⟩) 1 cy]).run Try.prog w = .ok (.slice a' n' c') w') ∧ n' = (R ++ [y]).length ∧ RowOk w' B a' c' (R ++ [y]) ∧ Turns (fun j => a = some ⟨j, 0, none⟩) w w' ∧ (∀ q, a' = some ⟨q, 0, none⟩ → a = some ⟨q, 0, none⟩ ∨ w.heap.size ≤ q) := by
  have hsrc : Src Try.prog Try.t37.size 50 (.slice (some ⟨g, 0, none⟩) 1 cy) 1 y.cells w := Src.ofSlice w Try.underlying50 ⟨g, 0, none⟩ 1 cy _ (by rw [t37_size]; rfl) (fun j u hu => by
    rw [Go.WideShapes.add_plain, Nat.zero_add, cell_of_row w g j _ 37 (0, 0) hg]
    simpa using hu) (fun u hu => y.cells_one u hu)
  have hbase : (a = none ∧ R.length = 0 ∧ c = 0 ∧ 0 < 1) ∨ ∃ g, a = some ⟨g, 0, none⟩ ∧ B ≤ g ∧ R.length ≤ c ∧ RowC w g 37 (c * Try.t37.size) (flCells R) := by
    rcases h with ⟨rfl, rfl, rfl⟩ | ⟨g, e, h1, h2, h3⟩
    · exact .inl ⟨rfl, rfl, rfl, by omega⟩
    · exact .inr ⟨g, e, h1, h2, by rw [t37_size]; exact h3⟩
  obtain ⟨g', cp, w', hr, hg', hrow, hb, hcp, hin, hnew, hkeep⟩ := append_gen2 (P := Try.prog) w B 50 37 Try.t37 _ Try.underlying50 info37 t37_zero rfl a R.length c (flCells R) (by rw [t37_size, flCells_length]) _ 1 _ hsrc hB hbase (by rw [t37_bytes]; omega) (by omega)
  refine ⟨some ⟨g', 0, none⟩, _, cp, w', hr, by simp, .inr ⟨g', rfl, hg', by simpa using hcp, ?_⟩, ⟨hb.os, hb.tape, hb.output, hb.size, fun k hk hn => hkeep k hk hn⟩, fun q e => ?_⟩
  · rw [t37_size] at hrow
    rw [flCells_append]
    simpa [flCells] using hrow
  · cases e
    rcases Nat.lt_or_ge c (R.length + 1) with h1 | h1
    · exact .inr (by rw [hnew h1]; exact Nat.le_refl _)
    · exact .inl (hin h1).1
/-- Adds in memory. -/
def Adds (w : World) (a : Option Addr) (A : List (Int × Tf)) : Prop := ∀ (k : Nat) (d : Int × Tf), A[k]? = some d → (∃ b off, a = some ⟨b, off, none⟩ ∧ w.cell? ⟨b, off + k * 7, none⟩ = some (.int .i64 d.1) ∧ F6 w b (off + k * 7 + 1) d.2) ∧ FB w d.2
theorem Adds.quiet {w w' : World} {a : Option Addr} {A : List (Int × Tf)} (h : Adds w a A) (t : Turns (fun _ => False) w w') : Adds w' a A := fun k d hd => by
  obtain ⟨⟨b, off, e, c1, c2⟩, h3⟩ := h k d hd
  exact ⟨⟨b, off, e, t.cell c1 (fun x => x), c2.quiet t⟩, h3.quiet t⟩
def okAdds : (Nat → Option Int) → List (Int × Nat) → Bool
  | _, [] => true
  | m, d :: r => (m d.2).isNone && okAdds (upd m d.2 (some d.1)) r
def addNos (A : List (Int × Tf)) : List (Int × Nat) := A.map fun d => (d.1, d.2.f.no)
theorem okAdds_drop {m m' : Nat → Option Int} {A : List (Int × Tf)} {k : Nat} {d : Int × Tf} (hd : A[k]? = some d) (h : okAdds m (addNos A) = okAdds m' (addNos (A.drop k))) : okAdds m (addNos A) = ((m' d.2.f.no).isNone && okAdds (upd m' d.2.f.no (some d.1)) (addNos (A.drop (k + 1)))) := by
  have hk := (List.getElem?_eq_some_iff.1 hd).1
  have e : A[k] = d := by rw [List.getElem?_eq_getElem hk] at hd; exact Option.some.inj hd
  rw [h, List.drop_eq_getElem_cons hk, e]
  rfl
def goodLev (z : Int) : Bool := decide (0 ≤ z) && decide (z < 5)
theorem isLevel_any (z : Int) (w : World) : Calls Try.prog 54 #[.int .i64 z] w fun e w' => e = .returned (.bool (goodLev z)) ∧ w' = w := by
  by_cases h1 : 0 ≤ z
  · go_enter Try.func54, Try.ntmps54
    go_wp2_with fail
    go_ret
    exact ⟨congrArg Ending.returned (congrArg Value.bool (Bool.eq_iff_iff.2 (by simp [goodLev]; omega))), rfl⟩
  · go_enter Try.func54, Try.ntmps54
    go_wp2_with fail
    go_ret
    exact ⟨congrArg Ending.returned (congrArg Value.bool (Bool.eq_iff_iff.2 (by simp [goodLev]; omega))), rfl⟩
/-- The files of adds on a level. -/
def addsOn (k : Nat) (A : List (Int × Tf)) : List Fl := (A.filter fun d => decide (d.1 = (k : Int))).map fun d => d.2.f
theorem addsOn_take {A : List (Int × Tf)} {i k : Nat} {d : Int × Tf} (h : A[i]? = some d) : addsOn k (A.take (i + 1)) = addsOn k (A.take i) ++ if d.1 = (k : Int) then [d.2.f] else [] := by
  unfold addsOn
  rw [List.take_add_one, h, List.filter_append, List.map_append]
  congr 1
  by_cases e : d.1 = (k : Int) <;> simp [e]
end Go.Proofs.Ytmmcikbedegigaa
