import Derived.Test.YtmmcikbedegigaaGreatM11
import Derived.Test.YtmmcikbedegigaaGreatM04
/-
  The files of a list are sorted.
-/
namespace Go.Proofs.YtmmcikbedegigaaGreat
open Go.RowKit Go.Shelf Go.Lib
open Go.Sort (grow SWO PermIn SortedIn)
set_option maxRecDepth 100000
set_option maxHeartbeats 4000000
/-- The order of a level. -/
def cmpF (lev : Nat) (a b : Fl) : Int := if lev = 0 then cmpN a.no b.no else cmpB a.least b.least
theorem sort1_any (lev V : Nat) (x y : Tf) (w : World) (hv : w.cell? ⟨V, 0, none⟩ = some (.int .i64 (lev : Nat))) (h : FB w x) (h' : FB w y) :
    Calls Tryz.prog 76 #[x.agg, y.agg, .pointer (some ⟨V, 0, none⟩)] w fun e w' => e = .returned (.int .i64 (cmpF lev x.f y.f)) ∧ ∃ q os', w' = grow (w.drewN q) os' := by
  obtain ⟨la, lc, ma, mc, ⟨no, sz, ls, ms, en, sq⟩⟩ := x
  obtain ⟨la', lc', ma', mc', ⟨no', sz', ls', ms', en', sq'⟩⟩ := y
  have TA := hide (((Turns.refl (fun _ => False) w).alloc (.cells #[.int .u64 (no : Nat), .int .i64 sz, .slice la ls.length lc, .slice ma ms.length mc, .int .i64 en, .int .u64 (sq : Nat)] 49)).alloc (.cells #[.int .u64 (no' : Nat), .int .i64 sz', .slice la' ls'.length lc', .slice ma' ms'.length mc', .int .i64 en', .int .u64 (sq' : Nat)] 49))
  have CB := hide (compareB_any la la' ls.length ls'.length lc lc' ls ls' _ (h.quiet TA.out).1 (h'.quiet TA.out).1)
  have hv2 := TA.out.cell hv (fun x => x)
  unfold Tf.agg
  simp only
  clear h h' hv
  by_cases hl : lev = 0
  · subst hl
    have C64 := hide (cmp64_any no no')
    go_enter Tryz.func76, Tryz.ntmps76
    go_wp2_with fail
    refine (C64.out _).mono ?_
    rintro e w1 ⟨rfl, rfl⟩
    go_wp2_with fail
    go_ret
    exact ⟨rfl, 0, _, by rw [Go.Sort.alloc_eq_grow, Go.Sort.alloc_eq_grow, Go.Sort.grow_grow]; rfl⟩
  · have hli : ¬ (lev : Int) = 0 := by omega
    go_enter Tryz.func76, Tryz.ntmps76
    go_wp2_with fail
    refine CB.out.mono ?_
    rintro e w1 ⟨rfl, rfl⟩
    go_wp2_with fail
    go_ret
    exact ⟨by simp [cmpF, hl], 0, _, by rw [Go.Sort.alloc_eq_grow, Go.Sort.alloc_eq_grow, Go.Sort.grow_grow]; rfl⟩
theorem cmpF_swo (lev : Nat) (p : Tf → Prop) : SWO (ltOf fun (x y : {x : Tf // p x}) => cmpF lev x.1.f y.1.f) := by
  have hB : ∀ a b c : List (BitVec 8), ¬ cmpB a b < 0 → ¬ cmpB b c < 0 → ¬ cmpB a c < 0 := fun a b c h1 h2 h3 => by
    have h4 : cmpB a c = -1 := by rcases cmpB_vals a c with h | h | h <;> omega
    have e1 := cmpB_swap a b
    have e2 := cmpB_swap b c
    rcases cmpB_vals a b with h | h | h
    · omega
    · rw [(cmpB_zero a b).1 h] at h4; omega
    · have h5 : cmpB b a = -1 := by omega
      have := cmpB_lt h5 h4
      omega
  refine ⟨fun x => ?_, fun x y z h1 h2 => ?_, fun x y z h1 h2 => ?_⟩
  · have := (cmpB_zero x.1.f.least x.1.f.least).2 rfl
    unfold ltOf cmpF cmpN
    split <;> simp [this]
  · unfold ltOf cmpF cmpN at *
    by_cases hl : lev = 0
    · simp only [hl, if_true, decide_eq_true_eq] at *; split at h1 <;> split at h2 <;> (try split at h1) <;> (try split at h2) <;> split <;> (try split) <;> omega
    · simp only [hl, if_false, decide_eq_true_eq] at *
      have e1 : cmpB x.1.f.least y.1.f.least = -1 := by rcases cmpB_vals x.1.f.least y.1.f.least with h | h | h <;> omega
      have e2 : cmpB y.1.f.least z.1.f.least = -1 := by rcases cmpB_vals y.1.f.least z.1.f.least with h | h | h <;> omega
      have := cmpB_lt e1 e2
      omega
  · unfold ltOf cmpF cmpN at *
    by_cases hl : lev = 0
    · simp only [hl, if_true, decide_eq_false_iff_not] at *; split at h1 <;> split at h2 <;> (try split at h1) <;> (try split at h2) <;> split <;> (try split) <;> omega
    · simp only [hl, if_false, decide_eq_false_iff_not] at *
      exact hB _ _ _ h1 h2
end Go.Proofs.YtmmcikbedegigaaGreat

/-
  The files of a list are sorted: the library's contract at a row of files.
-/
namespace Go.Proofs.YtmmcikbedegigaaGreat
open Go.RowKit Go.Shelf Go.Lib
open Go.Sort (grow SWO PermIn SortedIn flatK HoldsK putRowK)
set_option maxRecDepth 100000
set_option maxHeartbeats 4000000
section
variable {α : Type} [Inhabited α]
theorem sortWorld_turns (enc : α → List Value) (w : World) (g m : Nat) (d : Array α) (os : Array Obj) : Turns (fun j => j = g) w (sortWorldK enc 6 w g 0 m d os) := by
  refine ⟨rfl, rfl, rfl, ?_, fun k hk hn => ?_⟩
  · unfold sortWorldK; rw [Go.Sort.size_grow]; unfold Go.Sort.putRowK; rw [Go.Sort.size_putRow]; exact Nat.le_add_right _ _
  · unfold sortWorldK
    rw [Go.Sort.heap_grow_old _ _ (by unfold Go.Sort.putRowK; rw [Go.Sort.size_putRow]; exact hk)]
    unfold Go.Sort.putRowK Go.Sort.putRow Go.Sort.mapBlock
    simp only [Array.getElem?_modify]
    rw [if_neg (fun e => hn e.symm)]
    rfl
theorem sortWorld_row (enc : α → List Value) (w : World) (g m : Nat) (d : Array α) (os : Array Obj) (cs : Array Value) (h : w.heap[g]? = some (.cells cs 49 (0, 0))) : (sortWorldK enc 6 w g 0 m d os).heap[g]? = some (.cells (Go.Sort.putCells id 0 (flatK enc 6 d) cs) 49 (0, 0)) := by
  have hg := lt_of_heap h
  unfold sortWorldK
  rw [Go.Sort.heap_grow_old _ _ (by unfold Go.Sort.putRowK; rw [Go.Sort.size_putRow]; exact hg)]
  unfold Go.Sort.putRowK Go.Sort.putRow Go.Sort.mapBlock
  simp only [Array.getElem?_modify, if_true]
  show Option.map _ w.heap[g]? = _
  rw [h]
  rfl
end
theorem ins_none (p : Option Addr) (cap : Nat) (fv : Value) (w : World) : Calls Tryz.prog 97 #[.slice p 0 cap, .int .i64 0, .int .i64 0, fv] w fun e w' => e = .returned (.tuple #[]) ∧ w' = w := by
  go_enter Tryz.func97, Tryz.ntmps97
  go_wp2_with fail
  refine wp_loop_rounds 1 ?_
  rw [rounds_succ]
  go_wp2_with fail
  refine bodyPost_end (results_none Tryz.results97 _ _ _) rfl ?_
  exact ⟨rfl, rfl⟩
theorem pdq_none (p : Option Addr) (cap : Nat) (L : Int) (fv : Value) (w : World) : Calls Tryz.prog 92 #[.slice p 0 cap, .int .i64 0, .int .i64 0, .int .i64 L, fv] w fun e w' => e = .returned (.tuple #[]) ∧ w' = w := by
  go_enter Tryz.func92, Tryz.ntmps92
  go_wp2_with fail
  refine wp_loop_once ?_
  go_wp2_with fail
  refine (ins_none p cap fv _).mono ?_
  rintro e w1 ⟨rfl, rfl⟩
  go_wp2_with fail
  refine bodyPost_ret (results_none Tryz.results92 _ _ _) rfl ?_
  exact ⟨rfl, rfl⟩
theorem sort_none (p : Option Addr) (cap : Nat) (fv : Value) (w : World) : Calls Tryz.prog 75 #[.slice p 0 cap, fv] w fun e w' => e = .returned (.tuple #[]) ∧ w' = w := by
  go_enter Tryz.func75, Tryz.ntmps75
  go_wp2_with fail
  refine (len_any 0 (by decide) _).mono ?_
  rintro e w1 ⟨rfl, rfl⟩
  go_wp2_with fail
  refine (pdq_none p cap _ fv _).mono ?_
  rintro e w1 ⟨rfl, rfl⟩
  go_wp2_with fail
  go_end0
  exact ⟨rfl, rfl⟩
/-- Sorted by a level's order. -/
def SortF (lev : Nat) (R : List Tf) : Prop := ∀ (i j : Nat) (x y : Tf), i < j → R[i]? = some x → R[j]? = some y → ¬ cmpF lev y.f x.f < 0
theorem sortFunc_any (lev V g c B : Nat) (R : List Tf) (w : World) (hr : RowC w g 49 (c * 6) (flCells R)) (hlc : R.length ≤ c) (hft : ∀ x ∈ R, FT w B x) (hv : w.heap[V]? = some (.cells #[.int .i64 (lev : Nat)] 3 (0, 0))) (hn : R.length ≤ 1000000) :
    Calls Tryz.prog 75 #[.slice (some ⟨g, 0, none⟩) R.length c, .func (.func 76) #[] #[.pointer (some ⟨V, 0, none⟩)]] w fun e w' => e = .returned (.tuple #[]) ∧ ∃ R', R'.Perm R ∧ SortF lev R' ∧ RowC w' g 49 (c * 6) (flCells R') ∧ Turns (fun j => j = g) w w' := by
  cases hR : R with
  | nil =>
    subst hR
    exact (sort_none (some ⟨g, 0, none⟩) c _ w).mono fun e w' ⟨h1, h2⟩ => by
      subst h2
      exact ⟨h1, [], .refl _, fun i j x y _ hx => by simp at hx, hr, Turns.refl _ _⟩
  | cons x0 r0 =>
    rw [← hR]
    have hx0 : FT w B x0 := hft x0 (by rw [hR]; simp)
    have inh : Inhabited {x : Tf // FT w B x} := ⟨⟨x0, hx0⟩⟩
    obtain ⟨cs, hg, hsz, hcs⟩ := hr
    have hgl := lt_of_heap hg
    let enc : {x : Tf // FT w B x} → List Value := fun x => x.1.cells
    let d : Array {x : Tf // FT w B x} := (R.attach.map fun x => (⟨x.1, hft x.1 x.2⟩ : {x : Tf // FT w B x})).toArray
    have hds : d.size = R.length := by simp [d]
    have hdl : d.toList.map (·.1) = R := by simp [d]
    have hVg : V ≠ g := fun e => by rw [e, hg] at hv; cases hv
    have hVl := lt_of_heap hv
    have eg : ∀ args w, (callFunc 76 args).run Tryz.prog w = .ok (.enter 76 args) w := enters_of Tryz.func76 (by kernel_rfl) rfl
    have hcmp : CmpLays Tryz.prog 76 #[.pointer (some ⟨V, 0, none⟩)] enc 6 (fun x y => cmpF lev x.1.f y.1.f) g 0 d.size w := fun m os dk _ x y => by
      have t := sortWorld_turns enc w g m dk os
      have hne : ∀ z : {x : Tf // FT w B x}, FB (sortWorldK enc 6 w g 0 m dk os) z.1 := fun z => (z.2.keep t fun k e _ cs' z' e2 => by subst e; rw [hg] at e2; cases e2).fb
      exact sort1_any lev V x.1 y.1 _ (t.cell (cell_of_row w V 0 _ 3 (0, 0) hv) hVg) (hne x) (hne y)
    have hat : ∀ (dd : Array {x : Tf // FT w B x}) (j : Nat), j < dd.size * 6 → (flCells (dd.toList.map (·.1)))[j]? = some (flatK enc 6 dd)[j]! := fun dd j hj => by
      have hq : j / 6 < dd.size := by omega
      rw [Go.Sort.get_flatK enc 6 dd j hj]
      have h1 := flCells_at (dd.toList.map (·.1)) (j / 6) dd[j / 6]!.1 (by simp [hq]) (j % 6) (by omega)
      rw [show j / 6 * 6 + j % 6 = j by omega] at h1
      rw [h1]
      show _ = some (dd[j / 6]!.1.cells)[j % 6]!
      rw [List.getElem?_eq_getElem (by rw [Tf.cells_length]; omega), List.getElem!_eq_getElem?_getD, List.getElem?_eq_getElem (by rw [Tf.cells_length]; omega)]
      rfl
    have hH : HoldsK enc 6 w g 0 d := fun j hj => by
      rw [Go.Sort.size_flatK] at hj
      refine ⟨?_, by rw [Nat.zero_add]; exact frozen_of_row w g j _ 49 hg⟩
      rw [Nat.zero_add, cell_of_row w g j cs 49 (0, 0) hg, hcs j (by rw [flCells_length]; omega)]
      have := hat d j hj
      rw [hdl] at this
      exact this
    have hcon := AnyQ.slices_SortFunc Tryz.sort75 6 Tryz.isAgg49 Tryz.sizeOf49 enc (fun x => x.1.cells_length) (fun x v hv => x.1.cells_one v hv) (fun x y => cmpF lev x.1.f y.1.f) (cmpF_swo lev _) 76 #[.pointer (some ⟨V, 0, none⟩)] g 0 c d w eg hcmp hH hgl (by omega)
    rw [hds] at hcon
    refine (show Calls Tryz.prog 75 _ _ _ from hcon).mono fun e w' h => ?_
    obtain ⟨h1, d', n, os, hp, hs, rfl⟩ := h
    have hd's : d'.size = R.length := by rw [hp.1, hds]
    refine ⟨h1, d'.toList.map (·.1), ?_, fun i j x y hij hx hy => ?_, ⟨_, sortWorld_row enc w g n d' os cs hg, ?_, fun k hk => ?_⟩, sortWorld_turns enc w g n d' os⟩
    · have h2 := hp.2.2
      rw [← hds, Array.extract_size] at h2
      rw [show d.size = d'.size by omega, Array.extract_size] at h2
      have h3 := h2.map (·.1)
      rw [hdl] at h3
      exact h3
    · have hi : i < d'.size := by have := (List.getElem?_eq_some_iff.1 hx).1; simpa using this
      have hj : j < d'.size := by have := (List.getElem?_eq_some_iff.1 hy).1; simpa using this
      have h2 := hs i j (Nat.zero_le _) hij (by omega)
      simp [hi] at hx
      simp [hj] at hy
      unfold ltOf at h2
      simp only [decide_eq_false_iff_not] at h2
      rw [getElem!_pos d' i hi, getElem!_pos d' j hj] at h2
      rw [← hx, ← hy]
      exact h2
    · simp [Go.Sort.putCells]; exact hsz
    · rw [flCells_length, List.length_map, Array.length_toList] at hk
      have hkc : k < cs.size := by omega
      rw [hat d' k hk]
      simp only [Go.Sort.putCells, Array.getElem?_mapIdx, Array.getElem?_eq_getElem hkc, Option.map_some, id]
      rw [if_pos ⟨Nat.zero_le _, by rw [Go.Sort.size_flatK]; omega⟩, Nat.sub_zero]
end Go.Proofs.YtmmcikbedegigaaGreat

/-
  The lists are sorted.
-/
namespace Go.Proofs.YtmmcikbedegigaaGreat
open Go.RowKit Go.Shelf
set_option maxRecDepth 100000
set_option maxHeartbeats 4000000
/-- One list is put in another order. -/
theorem DR.again {w w' : World} {B G N k : Nat} {L : List Lv} (h : DR w B G N L) {x : Lv} (hx : L[k]? = some x) (t : Turns (fun j => x.a = some ⟨j, 0, none⟩) w w') {R' : List Tf} (hr : RowOk w' B x.a x.c R') (hl : R'.length = x.l.length) (hf : ∀ y ∈ R', FT w' B y) : DR w' B G N (L.set k ⟨x.a, x.c, R'⟩) := by
  have hkl := (List.getElem?_eq_some_iff.1 hx).1
  obtain ⟨cs, h1, h2, h3⟩ := h.head
  have hG' : w'.heap[G]? = some (.cells cs 53 (0, 0)) := t.heap h1 (fun e => (h.rows k x hx).ne h1 (by decide) G e rfl)
  have hat : ∀ (j : Nat) (y : Lv), (L.set k ⟨x.a, x.c, R'⟩)[j]? = some y → (j ≠ k ∧ L[j]? = some y) ∨ (j = k ∧ y = ⟨x.a, x.c, R'⟩) := fun j y hy => by
    by_cases hj : j = k
    · subst hj; rw [List.getElem?_set_self hkl] at hy; exact .inr ⟨rfl, (Option.some.inj hy).symm⟩
    · rw [List.getElem?_set_ne (by omega)] at hy; exact .inl ⟨hj, hy⟩
  have hrow : ∀ (j : Nat) (y : Lv), j ≠ k → L[j]? = some y → RowOk w' B y.a y.c y.l := fun j y hj hy => (h.rows j y hy).keep t fun g e e2 => h.apart j k y x hj hy hx g e e2
  refine ⟨⟨cs, hG', h2, fun j y hy => ?_⟩, h.hG, fun j y hy => ?_, fun i j y z hij hy hz g e => ?_, fun y hy z hz => ?_⟩
  · rcases hat j y hy with ⟨hj, hy⟩ | ⟨rfl, rfl⟩
    · exact h3 j y hy
    · simp only [hl]; exact h3 j x hx
  · rcases hat j y hy with ⟨hj, hy⟩ | ⟨rfl, rfl⟩
    · exact hrow j y hj hy
    · exact hr
  · rcases hat i y hy with ⟨hi, hy1⟩ | ⟨rfl, rfl⟩
    · rcases hat j z hz with ⟨hj, hz1⟩ | ⟨rfl, rfl⟩
      · exact h.apart i j y z hij hy1 hz1 g e
      · exact h.apart i j y x hi hy1 hx g e
    · rcases hat j z hz with ⟨hj, hz1⟩ | ⟨rfl, rfl⟩
      · exact h.apart i j x z hij hx hz1 g e
      · omega
  · obtain ⟨j, hj⟩ := List.getElem?_of_mem hy
    rcases hat j y hj with ⟨hj2, hy1⟩ | ⟨rfl, rfl⟩
    · exact (h.files y (List.mem_of_getElem? hy1) z hz).keep t fun j e _ cs' z' e2 => (h.rows k x hx).ne e2 (by decide) j e rfl
    · exact hf z hz
theorem sort_any (G c B : Nat) (L : List Lv) (w : World) (h : DR w B G 5 L) (hl : L.length = 5) (hc : cnt L ≤ 100000) :
    Calls Tryz.prog 52 #[.agg #[.slice (some ⟨G, 0, none⟩) 5 c]] w fun e w' => e = .returned (.tuple #[]) ∧ ∃ L', L'.length = 5 ∧ DR w' B G 5 L' ∧ (∀ (k : Nat) (x x' : Lv), L[k]? = some x → L'[k]? = some x' → x'.l.Perm x.l ∧ SortF k x'.l ∧ x'.a = x.a) ∧ Turns (own G L) w w' := by
  have TA := hide ((Turns.refl (fun _ => False) w).alloc (.cells #[.slice (some ⟨G, 0, none⟩) 5 c] 58))
  have H := hide (h.quiet TA.out)
  have HL := hide hl
  have HC := hide hc
  clear h hl hc
  go_enter Tryz.func52, Tryz.ntmps52
  go_wp2_with fail
  generalize w.alloc (.cells #[.slice (some ⟨G, 0, none⟩) 5 c] 58) = w0 at *
  go_loopw [7] (fun i wr => ∃ (k : Nat) (L2 : List Lv), i = .int .i64 (k : Nat) ∧ k ≤ 5 ∧ L2.length = 5 ∧ DR wr B G 5 L2 ∧ (∀ (j : Nat) (x x' : Lv), L[j]? = some x → L2[j]? = some x' → x'.l.Perm x.l ∧ (j < k → SortF j x'.l) ∧ x'.a = x.a) ∧ Turns (own G L) w wr) (fun i _ => 5 - (intOf i).toNat)
  case atStart => exact ⟨0, L, rfl, Nat.zero_le _, HL.out, H.out, fun j x x' hx hx' => by rw [hx] at hx'; cases hx'; exact ⟨.refl _, fun h => by omega, rfl⟩, TA.out.mono fun _ _ x => x.elim⟩
  case round =>
    obtain ⟨k, L2, rfl, hk, hl2, hd, hp, ht⟩ := hrel
    have HL2 := hide hl2
    have HD := hide hd
    have HP := hide hp
    have HT := hide ht
    clear hl2 hd hp ht
    by_cases hkn : k < 5
    · obtain ⟨x, hx⟩ : ∃ x, L2[k]? = some x := ⟨_, List.getElem?_eq_getElem (by have := HL2.out; omega)⟩
      obtain ⟨x0, hx0⟩ : ∃ x, L[k]? = some x := ⟨_, List.getElem?_eq_getElem (by have := HL.out; omega)⟩
      have hpx := HP.out k x0 x hx0 hx
      have hxl : x.l.length ≤ 1000000 := by
        have h1 := hpx.1.length_eq
        have := cnt_take hx0; have := cnt_take_le L (k + 1); have := HC.out; omega
      obtain ⟨⟨b, off, e, hcl⟩, _⟩ := HD.out.levs k x hx
      cases e
      rw [Nat.zero_add] at hcl
      have i1 : (k : Int) < 5 := by omega
      have i0 : (0 : Int) ≤ k := by omega
      have TV := hide ((Turns.refl (fun _ => False) wr).alloc (.cells #[.int .i64 (k : Nat)] 3))
      have RV := hide (heap_alloc_new wr (.cells #[.int .i64 (k : Nat)] 3))
      have CS := hide (show Calls Tryz.prog 75 #[.slice x.a x.l.length x.c, .func (.func 76) #[] #[.pointer (some ⟨wr.heap.size, 0, none⟩)]] (wr.alloc (.cells #[.int .i64 (k : Nat)] 3)) fun e w' => e = .returned (.tuple #[]) ∧ ∃ R', R'.Perm x.l ∧ SortF k R' ∧ RowOk w' B x.a x.c R' ∧ Turns (fun j => x.a = some ⟨j, 0, none⟩) wr w' from by
        rcases (HD.out.rows k x hx).keep TV.out (fun _ _ x => x) with ⟨e1, e2, e3⟩ | ⟨g, e1, e2, e3, hrow⟩
        · rw [e1, e2, e3]
          exact (sort_none none 0 _ _).mono fun e w' ⟨q1, q2⟩ => by
            subst q2
            exact ⟨q1, [], .refl _, fun i j x y _ hx => by simp at hx, .inl ⟨rfl, rfl, rfl⟩, TV.out.mono fun _ _ x => x.elim⟩
        · rw [e1]
          exact (sortFunc_any k wr.heap.size g x.c B x.l _ hrow e3 (fun y hy => (HD.out.files x (List.mem_of_getElem? hx) y hy).quiet TV.out) RV.out hxl).mono fun e w' ⟨q1, R', q2, q3, q4, q5⟩ =>
            ⟨q1, R', q2, q3, .inr ⟨g, rfl, e2, by rw [q2.length_eq]; exact e3, q4⟩, (TV.out.mono fun _ _ x => x.elim).trans (q5.mono fun j _ e => by rw [e])⟩)
      have HX := hide hx
      have HX0 := hide hx0
      have HPX := hide hpx
      obtain ⟨xa, xc, xl⟩ := x
      simp only at *
      generalize xl.length = XL at *
      clear hx hx0 hpx hxl
      go_wp2_with fail
      refine CS.out.mono ?_
      rintro e w1 ⟨rfl, R', hp, hs, hro, htn⟩
      have REL := hide (show ∃ L3 : List Lv, L3.length = 5 ∧ DR w1 B G 5 L3 ∧ (∀ (j : Nat) (x x' : Lv), L[j]? = some x → L3[j]? = some x' → x'.l.Perm x.l ∧ (j < k + 1 → SortF j x'.l) ∧ x'.a = x.a) ∧ Turns (own G L) w w1 from by
        have hkl := (List.getElem?_eq_some_iff.1 HX.out).1
        refine ⟨L2.set k ⟨xa, xc, R'⟩, by rw [List.length_set]; exact HL2.out, HD.out.again HX.out htn hro hp.length_eq (fun y hy => (HD.out.files _ (List.mem_of_getElem? HX.out) y (hp.mem_iff.1 hy)).keep htn fun j e _ cs' z' e2 => (HD.out.rows k _ HX.out).ne e2 (by decide) j e rfl), fun j y y' hy hy' => ?_, HT.out.trans (htn.mono fun j _ e => .inr ⟨k, x0, HX0.out, ?_⟩)⟩
        · by_cases hj : j = k
          · subst hj
            rw [List.getElem?_set_self hkl] at hy'
            cases hy'
            rw [HX0.out] at hy
            cases hy
            exact ⟨hp.trans HPX.out.1, fun _ => hs, HPX.out.2.2⟩
          · rw [List.getElem?_set_ne (by omega)] at hy'
            have h1 := HP.out j y y' hy hy'
            exact ⟨h1.1, fun h => h1.2.1 (by omega), h1.2.2⟩
        · rw [← HPX.out.2.2]; exact e)
      clear hp hs hro htn CS
      go_wp2_with fail
      obtain ⟨L3, r1, r2, r3, r4⟩ := REL.out
      go_roundw
      case rel => exact ⟨k + 1, L3, by go_num, by omega, r1, r2, r3, r4⟩
      case measure => simp [intOf]; omega
    · obtain rfl : k = 5 := by omega
      go_wp2_with fail
      go_end0
      refine ⟨rfl, L2, HL2.out, HD.out, fun j x x' hx hx' => ?_, HT.out⟩
      have h1 := HP.out j x x' hx hx'
      exact ⟨h1.1, h1.2.1 (by have := (List.getElem?_eq_some_iff.1 hx).1; have := HL.out; omega), h1.2.2⟩
end Go.Proofs.YtmmcikbedegigaaGreat

/-
  Adds in memory; one file more at the end of a list.
-/
namespace Go.Proofs.YtmmcikbedegigaaGreat
open Go.RowKit
set_option maxRecDepth 100000
set_option maxHeartbeats 4000000
theorem append_fl (w : World) (B : Nat) (a : Option Addr) (c : Nat) (R : List Tf) (h : RowOk w B a c R) (hB : B ≤ w.heap.size) (hlen : R.length ≤ 1000000) (y : Tf) (g cy : Nat) (hg : w.heap[g]? = some (.cells y.cells.toArray 49 (0, 0))) :
    ∃ (a' : Option Addr) (n' c' : Nat) (w' : World), (∀ ty, (Builtin.append_ #[53, 53] ty #[.slice a R.length c, .slice (some ⟨g, 0, none⟩) 1 cy]).run Tryz.prog w = .ok (.slice a' n' c') w') ∧ n' = (R ++ [y]).length ∧ RowOk w' B a' c' (R ++ [y]) ∧ Turns (fun j => a = some ⟨j, 0, none⟩) w w' ∧ (∀ q, a' = some ⟨q, 0, none⟩ → a = some ⟨q, 0, none⟩ ∨ w.heap.size ≤ q) := by
  have hsrc : Src Tryz.prog Tryz.t49.size 53 (.slice (some ⟨g, 0, none⟩) 1 cy) 1 y.cells w := Src.ofSlice w Tryz.underlying53 ⟨g, 0, none⟩ 1 cy _ (by rw [t37_size]; rfl) (fun j u hu => by
    rw [Go.WideShapes.add_plain, Nat.zero_add, cell_of_row w g j _ 49 (0, 0) hg]
    simpa using hu) (fun u hu => y.cells_one u hu)
  have hbase : (a = none ∧ R.length = 0 ∧ c = 0 ∧ 0 < 1) ∨ ∃ g, a = some ⟨g, 0, none⟩ ∧ B ≤ g ∧ R.length ≤ c ∧ RowC w g 49 (c * Tryz.t49.size) (flCells R) := by
    rcases h with ⟨rfl, rfl, rfl⟩ | ⟨g, e, h1, h2, h3⟩
    · exact .inl ⟨rfl, rfl, rfl, by omega⟩
    · exact .inr ⟨g, e, h1, h2, by rw [t37_size]; exact h3⟩
  obtain ⟨g', cp, w', hr, hg', hrow, hb, hcp, hin, hnew, hkeep⟩ := append_gen2 (P := Tryz.prog) w B 53 49 Tryz.t49 _ Tryz.underlying53 info37 t37_zero rfl a R.length c (flCells R) (by rw [t37_size, flCells_length]) _ 1 _ hsrc hB hbase (by rw [t37_bytes]; omega) (by omega)
  refine ⟨some ⟨g', 0, none⟩, _, cp, w', hr, by simp, .inr ⟨g', rfl, hg', by simpa using hcp, ?_⟩, ⟨hb.os, hb.tape, hb.output, hb.size, fun k hk hn => hkeep k hk hn⟩, fun q e => ?_⟩
  · rw [t37_size] at hrow
    rw [flCells_append]
    simpa [flCells] using hrow
  · cases e
    rcases Nat.lt_or_ge c (R.length + 1) with h1 | h1
    · exact .inr (by rw [hnew h1]; exact Nat.le_refl _)
    · exact .inl (hin h1).1
/-- Adds in memory. -/
def Adds (w : World) (a : Option Addr) (A : List (Int × Tf)) : Prop := ∀ (k : Nat) (d : Int × Tf), A[k]? = some d → (∃ b off, a = some ⟨b, off, none⟩ ∧ w.cell? ⟨b, off + k * 7, none⟩ = some (.int .i64 d.1) ∧ F6 w b (off + k * 7 + 1) d.2) ∧ FB w d.2
theorem Adds.quiet {w w' : World} {a : Option Addr} {A : List (Int × Tf)} (h : Adds w a A) (t : Turns (fun _ => False) w w') : Adds w' a A := fun k d hd => by
  obtain ⟨⟨b, off, e, c1, c2⟩, h3⟩ := h k d hd
  exact ⟨⟨b, off, e, t.cell c1 (fun x => x), c2.quiet t⟩, h3.quiet t⟩
def okAdds : (Nat → Option Int) → List (Int × Nat) → Bool
  | _, [] => true
  | m, d :: r => (m d.2).isNone && okAdds (upd m d.2 (some d.1)) r
def addNos (A : List (Int × Tf)) : List (Int × Nat) := A.map fun d => (d.1, d.2.f.no)
theorem okAdds_drop {m m' : Nat → Option Int} {A : List (Int × Tf)} {k : Nat} {d : Int × Tf} (hd : A[k]? = some d) (h : okAdds m (addNos A) = okAdds m' (addNos (A.drop k))) : okAdds m (addNos A) = ((m' d.2.f.no).isNone && okAdds (upd m' d.2.f.no (some d.1)) (addNos (A.drop (k + 1)))) := by
  have hk := (List.getElem?_eq_some_iff.1 hd).1
  have e : A[k] = d := by rw [List.getElem?_eq_getElem hk] at hd; exact Option.some.inj hd
  rw [h, List.drop_eq_getElem_cons hk, e]
  rfl
def goodLev (z : Int) : Bool := decide (0 ≤ z) && decide (z < 5)
theorem isLevel_any (z : Int) (w : World) : Calls Tryz.prog 51 #[.int .i64 z] w fun e w' => e = .returned (.bool (goodLev z)) ∧ w' = w := by
  by_cases h1 : 0 ≤ z
  · go_enter Tryz.func51, Tryz.ntmps51
    go_wp2_with fail
    go_ret
    exact ⟨congrArg Ending.returned (congrArg Value.bool (Bool.eq_iff_iff.2 (by simp [goodLev]; omega))), rfl⟩
  · go_enter Tryz.func51, Tryz.ntmps51
    go_wp2_with fail
    go_ret
    exact ⟨congrArg Ending.returned (congrArg Value.bool (Bool.eq_iff_iff.2 (by simp [goodLev]; omega))), rfl⟩
/-- The files of adds on a level. -/
def addsOn (k : Nat) (A : List (Int × Tf)) : List Fl := (A.filter fun d => decide (d.1 = (k : Int))).map fun d => d.2.f
theorem addsOn_take {A : List (Int × Tf)} {i k : Nat} {d : Int × Tf} (h : A[i]? = some d) : addsOn k (A.take (i + 1)) = addsOn k (A.take i) ++ if d.1 = (k : Int) then [d.2.f] else [] := by
  unfold addsOn
  rw [List.take_add_one, h, List.filter_append, List.map_append]
  congr 1
  by_cases e : d.1 = (k : Int) <;> simp [e]
end Go.Proofs.YtmmcikbedegigaaGreat

/-
  add.
-/
namespace Go.Proofs.YtmmcikbedegigaaGreat
open Go.RowKit
set_option maxRecDepth 100000
set_option maxHeartbeats 4000000
/-- What adds have come to. -/
def Added (w' : World) (B G : Nat) (L : List Lv) (A : List (Int × Tf)) : Prop := ∃ L', L'.length = 5 ∧ DR w' B G 5 L' ∧ ∀ (k : Nat) (x x' : Lv), L[k]? = some x → L'[k]? = some x' → (fls x'.l).Perm (fls x.l ++ addsOn k A) ∧ SortF k x'.l
/-- How far the adding has come. -/
structure Add2 (w wr : World) (B G c P : Nat) (L : List Lv) (A : List (Int × Tf)) (i : Nat) (L2 : List Lv) : Prop where
  len : L2.length = 5
  dr : DR wr B G 5 L2
  fls : ∀ (k : Nat) (x x' : Lv), L[k]? = some x → L2[k]? = some x' → YtmmcikbedegigaaGreat.fls x'.l = YtmmcikbedegigaaGreat.fls x.l ++ addsOn k (A.take i)
  hp : wr.heap[P]? = some (.cells #[.slice (some ⟨G, 0, none⟩) 5 c] 58 (0, 0))
  good : (A.take i).all (fun d => goodLev d.1) = true
  own : ∀ k, own G L2 k → YtmmcikbedegigaaGreat.own G L k ∨ w.heap.size ≤ k
  turn : Turns (YtmmcikbedegigaaGreat.own G L) w wr
def F28 (u : World) (P G c k : Nat) (xa : Option Addr) (XL xc X no : Nat) (sz : Int) (la : Option Addr) (L1 lc : Nat) (ma : Option Addr) (L2 mc : Nat) (en : Int) (sq : Nat) : Prop :=
  u.cell? ⟨P, 0, none⟩ = some (.slice (some ⟨G, 0, none⟩) 5 c) ∧ u.cell? ⟨G, k, none⟩ = some (.slice xa XL xc) ∧ u.cell? ⟨X, 0, none⟩ = some (.int .i64 (k : Nat)) ∧ u.cell? ⟨X, 1, none⟩ = some (.int .u64 (no : Nat)) ∧ u.cell? ⟨X, 2, none⟩ = some (.int .i64 sz) ∧ u.cell? ⟨X, 3, none⟩ = some (.slice la L1 lc) ∧ u.cell? ⟨X, 4, none⟩ = some (.slice ma L2 mc) ∧ u.cell? ⟨X, 5, none⟩ = some (.int .i64 en) ∧ u.cell? ⟨X, 6, none⟩ = some (.int .u64 (sq : Nat))
theorem cnt_le_mul (b : Nat) : ∀ L : List Lv, (∀ x ∈ L, x.l.length ≤ b) → cnt L ≤ L.length * b
  | [], _ => by simp [cnt]
  | x :: r, h => by
    have h1 := cnt_le_mul b r fun y hy => h y (by simp [hy])
    have h2 := h x (by simp)
    unfold cnt at *
    simp only [List.map_cons, List.sum_cons, List.length_cons, Nat.add_mul, Nat.one_mul]
    omega
theorem add_any (w0 w : World) (T0 : Turns (fun _ => False) w0 w) (G c : Nat) (L : List Lv) (aa : Option Addr) (an ac : Nat) (A : List (Int × Tf)) (h : DR w w0.heap.size G 5 L) (hl : L.length = 5) (hc : cnt L ≤ 10000) (hf : Fit L) (hA : Adds w0 aa A) (han : an = A.length) (hdm : an ≤ 4000) (hfit : ∀ d ∈ A, d.2.f.no < 18446744073709551616 ∧ d.2.f.least.length ≤ 1000000 ∧ d.2.f.most.length ≤ 1000000) :
    Calls Tryz.prog 19 #[.agg #[.slice (some ⟨G, 0, none⟩) 5 c], .slice aa an ac] w fun e w' => Turns (own G L) w w' ∧ ((okAdds (mp (pairsL L)) (addNos A) = false ∧ e = .returned (.int .i64 5)) ∨ (okAdds (mp (pairsL L)) (addNos A) = true ∧ A.all (fun d => goodLev d.1) = false ∧ e = .returned (.int .i64 2)) ∨ (okAdds (mp (pairsL L)) (addNos A) = true ∧ A.all (fun d => goodLev d.1) = true ∧ e = .returned (.int .i64 0) ∧ Added w' w0.heap.size G L A)) := by
  have TA := hide ((Turns.refl (fun _ => False) w).alloc (.cells #[.slice (some ⟨G, 0, none⟩) 5 c] 58))
  have R0 := hide (heap_alloc_new w (.cells #[.slice (some ⟨G, 0, none⟩) 5 c] 58))
  have CLO := hide (levelOf_any (some ⟨G, 0, none⟩) 5 c L _ (h.levs.quiet TA.out) hl.symm (by omega) (by omega) hf)
  have H := hide h
  have HL := hide hl
  have HC := hide hc
  have HF := hide hf
  have HAA := hide hA
  have HAN := hide han
  have HT0 := hide T0
  have HFIT := hide hfit
  have hdi : (an : Int) ≤ 4000 := by omega
  clear h hl hc hf hA han T0 hfit
  go_enter Tryz.func19, Tryz.ntmps19
  go_wp2_with fail
  refine CLO.out.mono ?_
  rintro e w1 ⟨M, rfl, hM, hm, t1⟩
  have T1 := hide (TA.out.trans t1)
  have RP := hide (t1.heap R0.out (fun x => x))
  have HM1 := hide hm
  have HMS := hide hM
  have HPS := hide (show w.heap.size < w1.heap.size from lt_of_heap RP.out)
  clear hM hm t1 CLO
  go_wp2_with fail
  generalize hP : w.heap.size = P at *
  have HP := hide hP
  clear hP
  have MP := hide (show ¬ P = M from fun e => by have h1 := RP.out; rw [e] at h1; exact HM1.out.notCells h1)
  go_loopw [16] (fun i wr => ∃ (k : Nat) (m : Nat → Option Int) (s : Nat), i = .int .i64 (k : Nat) ∧ k ≤ an ∧ okAdds (mp (pairsL L)) (addNos A) = okAdds m (addNos (A.drop k)) ∧ MapN wr M (cnt L + k) m s ∧ Turns (fun j => j = M) w1 wr) (fun i _ => an - (intOf i).toNat)
  case atStart => exact ⟨0, _, _, rfl, Nat.zero_le _, rfl, HM1.out, Turns.refl _ _⟩
  case round =>
    obtain ⟨k, m, s, rfl, hk, hdp, hm, hb⟩ := hrel
    have HDP := hide hdp
    have HMM := hide hm
    have HB := hide hb
    have HW := hide (show Turns (fun _ => False) w wr from T1.out.andThen hb fun j hj e => by have := HMS.out; have := HP.out; simp at *; omega)
    clear hdp hm hb
    by_cases hkn : k < an
    · obtain ⟨d, hd⟩ : ∃ d, A[k]? = some d := ⟨_, List.getElem?_eq_getElem (by have := HAN.out; omega)⟩
      obtain ⟨⟨b, off, rfl, y0, h6⟩, hfb⟩ := (HAA.out.quiet (HT0.out.trans HW.out)) k d hd
      have hno := (HFIT.out d (List.mem_of_getElem? hd)).1
      have HST := hide (okAdds_drop hd HDP.out)
      have i1 : (k : Int) < an := by omega
      have i0 : (0 : Int) ≤ k := by omega
      obtain ⟨lv, ⟨la, lc, ma, mc, ⟨no, sz, ls, ms, en, sq⟩⟩⟩ := d
      obtain ⟨y1, y2, y3, y4, y5, y6⟩ := h6
      simp only [Nat.add_assoc, Nat.reduceAdd] at y1 y2 y3 y4 y5 y6
      simp only [← Nat.add_assoc] at y1 y2 y3 y4 y5 y6
      simp only at *
      generalize ls.length = L1 at *
      generalize ms.length = L2 at *
      have TF := hide ((Turns.refl (fun _ => False) wr).alloc (.cells #[.int .i64 lv, .int .u64 (no : Nat), .int .i64 sz, .slice la L1 lc, .slice ma L2 mc, .int .i64 en, .int .u64 (sq : Nat)] 56))
      obtain ⟨v, hlk, ⟨z, rfl⟩, hz⟩ := (HMM.out.keep TF.out (fun x => x)).look no hno
      have hcm := HC.out
      obtain ⟨w3, hup, hm3, ht3⟩ := (HMM.out.keep TF.out (fun x => x)).store (by unfold maxLen; omega) no hno lv
      have HM3 := hide hm3
      have HT3 := hide ht3
      clear hd hm3 ht3 hno hfb hcm hz
      cases hmn : m no with
      | some z' =>
        rw [hmn] at hlk HST
        clear hmn
        go_wp2_with fail
        go_ret
        exact ⟨(HW.out.trans TF.out).mono fun _ _ x => x.elim, .inl ⟨by rw [HST.out]; simp, rfl⟩⟩
      | none =>
        rw [hmn] at hlk HST
        clear hmn
        go_wp2_with fail
        go_roundw
        case rel => exact ⟨k + 1, _, _, by go_num, by omega, by rw [HST.out]; simp, HM3.out, (HB.out.trans (TF.out.mono fun _ _ x => x.elim)).trans HT3.out⟩
        case measure => simp [intOf]; omega
    · obtain rfl : k = an := by omega
      have hdr : A.drop k = [] := List.drop_eq_nil_of_le (by have := HAN.out; omega)
      have HOK := hide (show okAdds (mp (pairsL L)) (addNos A) = true by rw [HDP.out, hdr]; rfl)
      have RPW := hide (HB.out.heap RP.out MP.out)
      have A0 := hide (show Add2 w wr w0.heap.size G c P L A 0 L from ⟨HL.out, H.out.quiet HW.out, fun j x x' hx hx' => by rw [hx] at hx'; cases hx'; simp [addsOn], RPW.out, rfl, fun _ h => .inl h, HW.out.mono fun _ _ x => x.elim⟩)
      have HWS := hide (show w0.heap.size ≤ w.heap.size from HT0.out.size)
      clear hdr HDP HB HMM
      generalize hwl : wr = wl at *
      clear hwl
      go_wp2_with fail
      go_loopw [38] (fun v wr => ∃ (i : Nat) (L2 : List Lv), v = .int .i64 (i : Nat) ∧ i ≤ k ∧ Add2 w wr w0.heap.size G c P L A i L2) (fun v _ => k - (intOf v).toNat)
      case atStart => exact ⟨0, L, rfl, Nat.zero_le _, A0.out⟩
      case round =>
        obtain ⟨i, L2, rfl, hi, ha2⟩ := hrel
        have HA2 := hide ha2
        clear ha2
        have HWR := hide (show Turns (fun _ => False) w0 wr from HT0.out.andThen HA2.out.turn fun j hj e => by have := H.out.own_ge e; omega)
        by_cases hin : i < k
        · obtain ⟨d, hd⟩ : ∃ d, A[i]? = some d := ⟨_, List.getElem?_eq_getElem (by have := HAN.out; omega)⟩
          obtain ⟨⟨b, off, eaa, y0, h6⟩, hfb⟩ := (HAA.out.quiet HWR.out) i d hd
          have hfit := HFIT.out d (List.mem_of_getElem? hd)
          have i1 : (i : Int) < k := by omega
          have i0 : (0 : Int) ≤ i := by omega
          have HDI := hide hd
          have CC0 := hide (fun (u : World) (t : Turns (fun _ => False) wr u) => cloneF_any d.2 u (hfb.quiet t) hfit.2.1 hfit.2.2)
          obtain ⟨lv, ⟨la, lc, ma, mc, ⟨no, sz, ls, ms, en, sq⟩⟩⟩ := d
          obtain ⟨y1, y2, y3, y4, y5, y6⟩ := h6
          simp only [Nat.add_assoc, Nat.reduceAdd] at y1 y2 y3 y4 y5 y6
          simp only [← Nat.add_assoc] at y1 y2 y3 y4 y5 y6
          unfold Tf.agg at CC0
          simp only at *
          subst eaa
          generalize ls.length = L1 at *
          generalize ms.length = L2' at *
          clear hd hfb hfit
          have TF0 := hide ((Turns.refl (fun _ => False) wr).alloc (.cells #[.int .i64 lv, .int .u64 (no : Nat), .int .i64 sz, .slice la L1 lc, .slice ma L2' mc, .int .i64 en, .int .u64 (sq : Nat)] 56))
          have RF := hide (heap_alloc_new wr (.cells #[.int .i64 lv, .int .u64 (no : Nat), .int .i64 sz, .slice la L1 lc, .slice ma L2' mc, .int .i64 en, .int .u64 (sq : Nat)] 56))
          go_wp2_with fail
          refine (isLevel_any lv _).mono ?_
          rintro e wq ⟨rfl, rfl⟩
          cases hgl : goodLev lv with
          | false =>
            go_wp2_with fail
            go_ret
            refine ⟨HA2.out.turn.trans (TF0.out.mono fun _ _ x => x.elim), .inr (.inl ⟨HOK.out, ?_, rfl⟩)⟩
            exact List.all_eq_false.2 ⟨_, List.mem_of_getElem? HDI.out, by simp [hgl]⟩
          | true =>
            have hgl2 : 0 ≤ lv ∧ lv < 5 := by simpa [goodLev] using hgl
            obtain ⟨kk, rfl⟩ : ∃ kk : Nat, lv = kk := ⟨lv.toNat, by omega⟩
            have HGL := hide hgl
            clear hgl
            have hk5 : kk < 5 := by omega
            have k5i : (kk : Int) < 5 := by omega
            have k0i : (0 : Int) ≤ kk := by omega
            clear hgl2
            clear y0 y1 y2 y3 y4 y5 y6
            obtain ⟨x, hx⟩ : ∃ x, L2[kk]? = some x := ⟨_, List.getElem?_eq_getElem (by have := HA2.out.len; omega)⟩
            obtain ⟨x0, hx0⟩ : ∃ x, L[kk]? = some x := ⟨_, List.getElem?_eq_getElem (by have := HL.out; omega)⟩
            have hfx := HA2.out.fls kk x0 x hx0 hx
            have HXLN := hide (show x.l.length ≤ 1000000 by
              have h1 := congrArg List.length hfx
              have h2 : (addsOn kk (A.take i)).length ≤ i := by
                unfold addsOn
                rw [List.length_map]
                exact Nat.le_trans (List.length_filter_le _ _) (by rw [List.length_take]; omega)
              simp only [fls, List.length_map, List.length_append] at h1
              have := cnt_take hx0; have := cnt_take_le L (kk + 1); have := HC.out; omega)
            obtain ⟨⟨b2, off2, e2, hcl⟩, _⟩ := HA2.out.dr.levs kk x hx
            cases e2
            rw [Nat.zero_add] at hcl
            have HX := hide hx
            have HX0 := hide hx0
            have HFX := hide hfx
            obtain ⟨xa, xc, xl⟩ := x
            simp only at *
            generalize hXL : xl.length = XL at *
            have HXL := hide hXL
            clear hx hx0 hfx hXL
            go_upto_region 15 with (fail)
            have HDW := hide (HA2.out.dr.quiet TF0.out)
            have HWS2 := hide (show w0.heap.size ≤ (wr.alloc (.cells #[.int .i64 (kk : Nat), .int .u64 (no : Nat), .int .i64 sz, .slice la L1 lc, .slice ma L2' mc, .int .i64 en, .int .u64 (sq : Nat)] 56)).heap.size from Nat.le_trans HWR.out.size TF0.out.size)
            have HPW := hide (TF0.out.heap HA2.out.hp (fun x => x))
            have HGC := hide (TF0.out.cell hcl (fun x => x))
            clear hcl
            generalize wr.alloc (.cells #[.int .i64 (kk : Nat), .int .u64 (no : Nat), .int .i64 sz, .slice la L1 lc, .slice ma L2' mc, .int .i64 en, .int .u64 (sq : Nat)] 56) = W at *
            generalize hX : wr.heap.size = X at *
            have NP := hide (show ∀ g, xa = some ⟨g, 0, none⟩ → ¬ g = P from (HDW.out.rows kk _ HX.out).ne HPW.out (by decide))
            have NX := hide (show ∀ g, xa = some ⟨g, 0, none⟩ → ¬ g = X from (HDW.out.rows kk _ HX.out).ne RF.out (by decide))
            have NG := hide (show ∀ g, xa = some ⟨g, 0, none⟩ → ¬ g = G from fun g e => by obtain ⟨cs, h1, _⟩ := HDW.out.head; exact (HDW.out.rows kk _ HX.out).ne h1 (by decide) g e)
            have CC := hide (fun (u : World) (t : Turns (fun _ => False) W u) => CC0.out u (TF0.out.trans t))
            have tV : Turns (fun j => xa = some ⟨j, 0, none⟩) W W.drew := (Turns.refl _ _).drew
            have tF : Turns (fun _ => False) W W.drew := (Turns.refl _ _).drew
            have SK := hide (fun (u : World) (t : Turns (fun j => xa = some ⟨j, 0, none⟩) W u) => show F28 u P G c kk xa XL xc X no sz la L1 lc ma L2' mc en sq from ⟨t.cell (cell_of_row W P 0 _ 58 (0, 0) HPW.out) (fun e => NP.out _ e rfl), t.cell HGC.out (fun e => NG.out _ e rfl), t.cell (cell_of_row W X 0 _ 56 (0, 0) RF.out) (fun e => NX.out _ e rfl), t.cell (cell_of_row W X 1 _ 56 (0, 0) RF.out) (fun e => NX.out _ e rfl), t.cell (cell_of_row W X 2 _ 56 (0, 0) RF.out) (fun e => NX.out _ e rfl), t.cell (cell_of_row W X 3 _ 56 (0, 0) RF.out) (fun e => NX.out _ e rfl), t.cell (cell_of_row W X 4 _ 56 (0, 0) RF.out) (fun e => NX.out _ e rfl), t.cell (cell_of_row W X 5 _ 56 (0, 0) RF.out) (fun e => NX.out _ e rfl), t.cell (cell_of_row W X 6 _ 56 (0, 0) RF.out) (fun e => NX.out _ e rfl)⟩)
            refine wp_region_z_drew 16 (S := fun u => F28 u P G c kk xa XL xc X no sz la L1 lc ma L2' mc en sq) (by kernel_rfl) (SK.out _ tV) (fun _ => ?_)
            change wpAnyZ _ _ _ _ _ _ 17 (Array.replicate 17 false) _ _
            refine wpAnyZ_take (i := 0) (oi := { dst := some 46, op := Op.fieldAddr 58 (Operand.tmp 2) 0, type := 0, pos := "lists.go:97", after := #[], guard := none }) (v := .pointer (some ⟨P, 0, none⟩)) rfl (by kernel_rfl) (by kernel_rfl) (by kernel_rfl) (by kernel_rfl) (fun _ _ _ h => h) (Or.inl ⟨by rfl, ?_⟩) (SK.out _ tV) ?_
            · rintro w ⟨s0, s1, s2, d0, d1, d2, d3, d4, d5⟩
              go_simp
            simp only [Act.put, List.setIfInBounds_toArray, List.set_cons_zero, List.set_cons_succ]
            refine wpAnyZ_take (i := 1) (oi := { dst := some 47, op := Op.load 24 (Operand.tmp 46), type := 24, pos := "lists.go:97", after := #[{ on := 0, ground := Ground.data }], guard := none }) (v := .slice (some ⟨G, 0, none⟩) 5 c) rfl (by kernel_rfl) (by kernel_rfl) (by kernel_rfl) (by kernel_rfl) (fun _ _ _ h => h) (Or.inl ⟨by rfl, ?_⟩) (SK.out _ tV) ?_
            · rintro w ⟨s0, s1, s2, d0, d1, d2, d3, d4, d5⟩
              go_simp
            simp only [Act.put, List.setIfInBounds_toArray, List.set_cons_zero, List.set_cons_succ]
            refine wpAnyZ_take (i := 2) (oi := { dst := some 48, op := Op.fieldAddr 56 (Operand.tmp 11) 0, type := 0, pos := "lists.go:97", after := #[], guard := none }) (v := .pointer (some ⟨X, 0, none⟩)) rfl (by kernel_rfl) (by kernel_rfl) (by kernel_rfl) (by kernel_rfl) (fun _ _ _ h => h) (Or.inl ⟨by rfl, ?_⟩) (SK.out _ tV) ?_
            · rintro w ⟨s0, s1, s2, d0, d1, d2, d3, d4, d5⟩
              go_simp
            simp only [Act.put, List.setIfInBounds_toArray, List.set_cons_zero, List.set_cons_succ]
            refine wpAnyZ_take (i := 3) (oi := { dst := some 49, op := Op.load 3 (Operand.tmp 48), type := 3, pos := "lists.go:97", after := #[{ on := 2, ground := Ground.data }], guard := none }) (v := .int .i64 (kk : Nat)) rfl (by kernel_rfl) (by kernel_rfl) (by kernel_rfl) (by kernel_rfl) (fun _ _ _ h => h) (Or.inl ⟨by rfl, ?_⟩) (SK.out _ tV) ?_
            · rintro w ⟨s0, s1, s2, d0, d1, d2, d3, d4, d5⟩
              go_simp
            simp only [Act.put, List.setIfInBounds_toArray, List.set_cons_zero, List.set_cons_succ]
            refine wpAnyZ_take (i := 4) (oi := { dst := some 50, op := Op.fieldAddr 58 (Operand.tmp 2) 0, type := 0, pos := "lists.go:97", after := #[], guard := none }) (v := .pointer (some ⟨P, 0, none⟩)) rfl (by kernel_rfl) (by kernel_rfl) (by kernel_rfl) (by kernel_rfl) (fun _ _ _ h => h) (Or.inl ⟨by rfl, ?_⟩) (SK.out _ tV) ?_
            · rintro w ⟨s0, s1, s2, d0, d1, d2, d3, d4, d5⟩
              go_simp
            simp only [Act.put, List.setIfInBounds_toArray, List.set_cons_zero, List.set_cons_succ]
            refine wpAnyZ_take (i := 5) (oi := { dst := some 51, op := Op.load 24 (Operand.tmp 50), type := 24, pos := "lists.go:97", after := #[{ on := 4, ground := Ground.data }], guard := none }) (v := .slice (some ⟨G, 0, none⟩) 5 c) rfl (by kernel_rfl) (by kernel_rfl) (by kernel_rfl) (by kernel_rfl) (fun _ _ _ h => h) (Or.inl ⟨by rfl, ?_⟩) (SK.out _ tV) ?_
            · rintro w ⟨s0, s1, s2, d0, d1, d2, d3, d4, d5⟩
              go_simp
            simp only [Act.put, List.setIfInBounds_toArray, List.set_cons_zero, List.set_cons_succ]
            refine wpAnyZ_take (i := 6) (oi := { dst := some 52, op := Op.fieldAddr 56 (Operand.tmp 11) 0, type := 0, pos := "lists.go:97", after := #[], guard := none }) (v := .pointer (some ⟨X, 0, none⟩)) rfl (by kernel_rfl) (by kernel_rfl) (by kernel_rfl) (by kernel_rfl) (fun _ _ _ h => h) (Or.inl ⟨by rfl, ?_⟩) (SK.out _ tV) ?_
            · rintro w ⟨s0, s1, s2, d0, d1, d2, d3, d4, d5⟩
              go_simp
            simp only [Act.put, List.setIfInBounds_toArray, List.set_cons_zero, List.set_cons_succ]
            refine wpAnyZ_take (i := 7) (oi := { dst := some 53, op := Op.load 3 (Operand.tmp 52), type := 3, pos := "lists.go:97", after := #[{ on := 6, ground := Ground.data }], guard := none }) (v := .int .i64 (kk : Nat)) rfl (by kernel_rfl) (by kernel_rfl) (by kernel_rfl) (by kernel_rfl) (fun _ _ _ h => h) (Or.inl ⟨by rfl, ?_⟩) (SK.out _ tV) ?_
            · rintro w ⟨s0, s1, s2, d0, d1, d2, d3, d4, d5⟩
              go_simp
            simp only [Act.put, List.setIfInBounds_toArray, List.set_cons_zero, List.set_cons_succ]
            refine wpAnyZ_take (i := 8) (oi := { dst := some 54, op := Op.indexAddr 24 (Operand.tmp 51) (Operand.tmp 53), type := 0, pos := "lists.go:97", after := #[{ on := 5, ground := Ground.data }, { on := 7, ground := Ground.data }], guard := none }) (v := .pointer (some ⟨G, kk, none⟩)) rfl (by kernel_rfl) (by kernel_rfl) (by kernel_rfl) (by kernel_rfl) (fun _ _ _ h => h) (Or.inl ⟨by rfl, ?_⟩) (SK.out _ tV) ?_
            · rintro w ⟨s0, s1, s2, d0, d1, d2, d3, d4, d5⟩
              go_simp
            simp only [Act.put, List.setIfInBounds_toArray, List.set_cons_zero, List.set_cons_succ]
            refine wpAnyZ_take (i := 9) (oi := { dst := some 55, op := Op.load 53 (Operand.tmp 54), type := 53, pos := "lists.go:97", after := #[{ on := 8, ground := Ground.data }], guard := none }) (v := .slice xa XL xc) rfl (by kernel_rfl) (by kernel_rfl) (by kernel_rfl) (by kernel_rfl) (fun _ _ _ h => h) (Or.inl ⟨by rfl, ?_⟩) (SK.out _ tV) ?_
            · rintro w ⟨s0, s1, s2, d0, d1, d2, d3, d4, d5⟩
              go_simp
            simp only [Act.put, List.setIfInBounds_toArray, List.set_cons_zero, List.set_cons_succ]
            refine wpAnyZ_take (i := 10) (oi := { dst := some 56, op := Op.fieldAddr 56 (Operand.tmp 11) 1, type := 0, pos := "lists.go:97", after := #[], guard := none }) (v := .pointer (some ⟨X, 1, none⟩)) rfl (by kernel_rfl) (by kernel_rfl) (by kernel_rfl) (by kernel_rfl) (fun _ _ _ h => h) (Or.inl ⟨by rfl, ?_⟩) (SK.out _ tV) ?_
            · rintro w ⟨s0, s1, s2, d0, d1, d2, d3, d4, d5⟩
              go_simp
            simp only [Act.put, List.setIfInBounds_toArray, List.set_cons_zero, List.set_cons_succ]
            refine wpAnyZ_take (i := 11) (oi := { dst := some 57, op := Op.load 49 (Operand.tmp 56), type := 49, pos := "lists.go:97", after := #[{ on := 10, ground := Ground.data }], guard := none }) (v := .agg #[.int .u64 (no : Nat), .int .i64 sz, .slice la L1 lc, .slice ma L2' mc, .int .i64 en, .int .u64 (sq : Nat)]) rfl (by kernel_rfl) (by kernel_rfl) (by kernel_rfl) (by kernel_rfl) (fun _ _ _ h => h) (Or.inl ⟨by rfl, ?_⟩) (SK.out _ tV) ?_
            · rintro w ⟨s0, s1, s2, d0, d1, d2, d3, d4, d5⟩
              go_simp
            simp only [Act.put, List.setIfInBounds_toArray, List.set_cons_zero, List.set_cons_succ]
            refine wpAnyZ_ready (rs := [12]) (by kernel_rfl) (by simp) ?_
            refine AllReadyZ.cons rfl (fun K hK => ?_) AllReadyZ.nil
            go_simp
            refine (CC.out _ tF).mono ?_
            rintro oo Vn ⟨y2, rfl, hyf, hft, tq⟩
            have tF := tF.trans tq
            have tV := tV.trans (tq.mono (S' := fun j => xa = some ⟨j, 0, none⟩) fun _ _ x => x.elim)
            have HYF := hide hyf
            have HFT := hide hft
            clear hyf hft tq
            go_simp
            refine hK.out _ _ (SK.out _ tV) (fun _ => ?_)
            clear hK K
            obtain ⟨y2la, y2lc, y2ma, y2mc, ⟨no2, sz2, ls2, ms2, en2, sq2⟩⟩ := y2
            have tF2 := tF.alloc (.cells #[.int .u64 (no2 : Nat), .int .i64 sz2, .slice y2la ls2.length y2lc, .slice y2ma ms2.length y2mc, .int .i64 en2, .int .u64 (sq2 : Nat)] 49)
            have tV2 := tV.alloc (.cells #[.int .u64 (no2 : Nat), .int .i64 sz2, .slice y2la ls2.length y2lc, .slice y2ma ms2.length y2mc, .int .i64 en2, .int .u64 (sq2 : Nat)] 49)
            have hnw := heap_alloc_new Vn (.cells #[.int .u64 (no2 : Nat), .int .i64 sz2, .slice y2la ls2.length y2lc, .slice y2ma ms2.length y2mc, .int .i64 en2, .int .u64 (sq2 : Nat)] 49)
            refine wpAnyZ_ready (rs := [13]) (by kernel_rfl) (by simp) ?_
            refine AllReadyZ.cons rfl (fun K hK => ?_) AllReadyZ.nil
            go_simp
            refine hK.out _ _ (SK.out _ tV2) (fun _ => ?_)
            clear hK K
            have HFT2 := hide (HFT.out.quiet ((Turns.refl (fun _ => False) Vn).alloc (.cells #[.int .u64 (no2 : Nat), .int .i64 sz2, .slice y2la ls2.length y2lc, .slice y2ma ms2.length y2mc, .int .i64 en2, .int .u64 (sq2 : Nat)] 49)))
            have hbw : w0.heap.size ≤ (Vn.alloc (.cells #[.int .u64 (no2 : Nat), .int .i64 sz2, .slice y2la ls2.length y2lc, .slice y2ma ms2.length y2mc, .int .i64 en2, .int .u64 (sq2 : Nat)] 49)).heap.size := by have h1 := HWS2.out; have h2 := tF2.size; omega
            obtain ⟨a3, n3, c3, w3, hr3, hn3, hro3, ht3, hq3⟩ := append_fl _ w0.heap.size xa xc xl ((HDW.out.rows kk _ HX.out).keep tF2 fun _ _ x => x) hbw (by rw [HXL.out]; exact HXLN.out) ⟨y2la, y2lc, y2ma, y2mc, ⟨no2, sz2, ls2, ms2, en2, sq2⟩⟩ Vn.heap.size 1 hnw
            rw [HXL.out] at hr3
            have tV3 := tV2.trans ht3
            refine wpAnyZ_ready (rs := [14]) (by kernel_rfl) (by simp) ?_
            refine AllReadyZ.cons rfl (fun K hK => ?_) AllReadyZ.nil
            refine step_append_run rfl _ _ 53 rfl (.slice xa XL xc) (.slice (some ⟨Vn.heap.size, 0, none⟩) 1 1) rfl rfl _ _ (hr3 _) 60 rfl ?_
            refine hK.out _ _ (SK.out _ tV3) (fun _ => ?_)
            clear hK K
            simp only [Act.put, List.setIfInBounds_toArray, List.set_cons_zero, List.set_cons_succ]
            have tV := tV3
            refine wpAnyZ_take (i := 15) (oi := { dst := some 61, op := Op.indexAddr 24 (Operand.tmp 47) (Operand.tmp 49), type := 0, pos := "lists.go:97", after := #[{ on := 1, ground := Ground.data }, { on := 3, ground := Ground.data }, { on := 0, ground := Ground.phase }, { on := 1, ground := Ground.phase }, { on := 2, ground := Ground.phase }, { on := 3, ground := Ground.phase }, { on := 4, ground := Ground.phase }, { on := 5, ground := Ground.phase }, { on := 6, ground := Ground.phase }, { on := 7, ground := Ground.phase }, { on := 8, ground := Ground.phase }, { on := 9, ground := Ground.phase }, { on := 10, ground := Ground.phase }, { on := 11, ground := Ground.phase }, { on := 12, ground := Ground.phase }, { on := 13, ground := Ground.phase }, { on := 14, ground := Ground.phase }], guard := none }) (v := .pointer (some ⟨G, kk, none⟩)) rfl (by kernel_rfl) (by kernel_rfl) (by kernel_rfl) (by kernel_rfl) (fun _ _ _ h => h) (Or.inl ⟨by rfl, ?_⟩) (SK.out _ tV) ?_
            · rintro w ⟨s0, s1, s2, d0, d1, d2, d3, d4, d5⟩
              go_simp
            simp only [Act.put, List.setIfInBounds_toArray, List.set_cons_zero, List.set_cons_succ]
            obtain ⟨cs1, hg1, hcs1, _⟩ := HDW.out.head
            have hg2 := tV3.heap hg1 (fun e => (HDW.out.rows kk _ HX.out).ne hg1 (by decide) G e rfl)
            obtain ⟨dv, d0⟩ : ∃ dv, w3.cell? ⟨G, kk, none⟩ = some dv := ⟨_, by rw [cell_of_row _ G kk _ 53 (0, 0) hg2]; exact Array.getElem?_eq_getElem (by omega)⟩
            have z0 := frozen_of_row w3 G kk _ 53 hg2
            have TV := hide tV3
            have TF := hide tF2
            have TT := hide (Turns.of_tick ((Tick.refl hg2).set kk (.slice a3 n3 c3)))
            have RO3 := hide hro3
            have HN3 := hide hn3
            have HT3 := hide ht3
            have HQ3 := hide hq3
            clear hg1 hg2 hcs1 tV tV2 tV3 tF tF2 hro3 hn3 hr3 ht3 hq3 hnw hbw
            refine wpAnyZ_ready (rs := [16]) (by kernel_rfl) (by simp) ?_
            refine AllReadyZ.free rfl (by kernel_rfl) (fun K hK => ?_) AllReadyZ.nil
            go_simp
            refine hK.out _ _ ?_
            clear hK K
            refine wpAnyZ_done (by kernel_rfl) ?_ _
            clear d0 z0
            have REL := hide (show ∃ L3 : List Lv, Add2 w (w3.setCell ⟨G, kk, none⟩ (.slice a3 n3 c3)) w0.heap.size G c P L A (i + 1) L3 from by
              have hkl := (List.getElem?_eq_some_iff.1 HX.out).1
              have t := (TF0.out.mono (S' := fun j => xa = some ⟨j, 0, none⟩) fun _ _ x => x.elim).trans TV.out
              have hyf : (⟨no2, sz2, ls2, ms2, en2, sq2⟩ : Fl) = ⟨no, sz, ls, ms, en, sq⟩ := HYF.out
              have hG : ¬ P = G := fun e => by obtain ⟨cs, h1, _⟩ := HDW.out.head; have h2 := HPW.out; rw [e, h1] at h2; cases h2
              have hdr := HA2.out.dr.redo (a' := a3) (c' := c3) (R' := xl ++ [⟨y2la, y2lc, y2ma, y2mc, ⟨no2, sz2, ls2, ms2, en2, sq2⟩⟩]) HX.out hk5 t RO3.out (fun g e => by
                rcases HQ3.out g e with h1 | h1
                · exact .inl h1
                · refine .inr ?_
                  have h2 := TF.out.size
                  have h3 := TF0.out.size
                  omega) (fun y hy => by
                rcases List.mem_append.1 hy with hy | hy
                · exact (HA2.out.dr.files _ (List.mem_of_getElem? HX.out) y hy).keep t fun j e _ cs' z' e2 => (HA2.out.dr.rows kk _ HX.out).ne e2 (by decide) j e rfl
                · obtain rfl := List.mem_singleton.1 hy
                  exact (HFT2.out.mono (by have h1 := HWS2.out; exact h1)).keep HT3.out fun j e _ cs' z' e2 => ((HDW.out.rows kk _ HX.out).keep TF.out fun _ _ x => x).ne e2 (by decide) j e rfl)
              rw [← HN3.out] at hdr
              refine ⟨L2.set kk ⟨a3, c3, xl ++ [⟨y2la, y2lc, y2ma, y2mc, ⟨no2, sz2, ls2, ms2, en2, sq2⟩⟩]⟩, by rw [List.length_set]; exact HA2.out.len, hdr, fun j y y' hy hy' => ?_, TT.out.heap (TV.out.heap HPW.out fun e => NP.out _ e rfl) hG, ?_, ?_, ?_⟩
              · rw [addsOn_take HDI.out]
                by_cases hj : j = kk
                · subst hj
                  rw [List.getElem?_set_self hkl] at hy'
                  cases hy'
                  rw [HX0.out] at hy
                  cases hy
                  have h1 := HFX.out
                  simp only [fls, List.map_append, List.map_cons, List.map_nil, if_true] at *
                  rw [h1, hyf, List.append_assoc]
                · rw [List.getElem?_set_ne (by omega)] at hy'
                  rw [if_neg (by simp only; omega), List.append_nil]
                  exact HA2.out.fls j y y' hy hy'
              · rw [List.take_add_one, HDI.out, List.all_append, HA2.out.good]
                simp [HGL.out]
              · rintro q (rfl | ⟨j, y, hy, e⟩)
                · exact .inl (.inl rfl)
                · by_cases hj : j = kk
                  · subst hj
                    rw [List.getElem?_set_self hkl] at hy
                    cases hy
                    rcases HQ3.out q e with h1 | h1
                    · exact HA2.out.own q (.inr ⟨j, _, HX.out, h1⟩)
                    · refine .inr ?_
                      have h2 := TF.out.size
                      have h3 := TF0.out.size
                      have h4 := HA2.out.turn.size
                      omega
                  · rw [List.getElem?_set_ne (by omega)] at hy
                    exact HA2.out.own q (.inr ⟨j, y, hy, e⟩)
              · refine (HA2.out.turn.andThen t fun q hq e => ?_).trans (TT.out.mono fun j _ e => .inl e)
                rcases HA2.out.own q (.inr ⟨kk, _, HX.out, e⟩) with h1 | h1
                · exact h1
                · omega)
            clear TV TF TT RO3 HN3 HT3 HQ3 HFT HFT2
            go_wp2_with fail
            obtain ⟨L3, r1⟩ := REL.out
            go_roundw
            case rel => exact ⟨i + 1, L3, by go_num, by omega, r1⟩
            case measure => simp [intOf]; omega
        · obtain rfl : i = k := by omega
          have htk : A.take i = A := List.take_of_length_le (by have := HAN.out; omega)
          have hp0 := cell_of_row wr P 0 _ 58 (0, 0) HA2.out.hp
          have hcnt : cnt L2 ≤ 100000 := by
            have h1 := cnt_le_mul 14000 L2 (fun x hx => by
              obtain ⟨j, hj⟩ := List.getElem?_of_mem hx
              have hj5 := (List.getElem?_eq_some_iff.1 hj).1
              obtain ⟨x0, hx0⟩ : ∃ x, L[j]? = some x := ⟨_, List.getElem?_eq_getElem (by have := HL.out; have := HA2.out.len; omega)⟩
              have h1 := congrArg List.length (HA2.out.fls j x0 x hx0 hj)
              have h2 : (addsOn j (A.take i)).length ≤ i := by
                unfold addsOn
                rw [List.length_map]
                exact Nat.le_trans (List.length_filter_le _ _) (by rw [List.length_take]; omega)
              simp only [fls, List.length_map, List.length_append] at h1
              have := cnt_take hx0; have := cnt_take_le L (j + 1); have := HC.out; omega)
            rw [HA2.out.len] at h1
            omega
          have CSO := hide (sort_any G c w0.heap.size L2 wr HA2.out.dr HA2.out.len hcnt)
          have HGD := hide (show A.all (fun d => goodLev d.1) = true from by have h1 := HA2.out.good; rw [htk] at h1; exact h1)
          have HTK := hide htk
          clear hcnt htk
          go_wp2_with fail
          refine CSO.out.mono ?_
          rintro e w2 ⟨rfl, L3, q1, q2, q3, q4⟩
          have DONE := hide (show Turns (own G L) w w2 ∧ Added w2 w0.heap.size G L A from by
            refine ⟨HA2.out.turn.andThen q4 fun q hq e => ?_, L3, q1, q2, fun j x x' hx hx' => ?_⟩
            · rcases HA2.out.own q e with h1 | h1
              · exact h1
              · omega
            · have hj5 := (List.getElem?_eq_some_iff.1 hx').1
              obtain ⟨x2, hx2⟩ : ∃ x, L2[j]? = some x := ⟨_, List.getElem?_eq_getElem (by have := HA2.out.len; omega)⟩
              have h1 := q3 j x2 x' hx2 hx'
              have h2 := HA2.out.fls j x x2 hx hx2
              rw [HTK.out] at h2
              rw [← h2]
              exact ⟨h1.1.map _, h1.2.1⟩)
          clear q1 q2 q3 q4 CSO
          go_wp2_with fail
          go_ret
          exact ⟨DONE.out.1, .inr (.inr ⟨HOK.out, HGD.out, rfl, DONE.out.2⟩)⟩
end Go.Proofs.YtmmcikbedegigaaGreat
