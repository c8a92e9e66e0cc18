/-
  The files of a list are sorted: the library's contract at a row of files.
-/
import Derived.Test.YtmmcikbedegigaaVs
namespace Go.Proofs.Ytmmcikbedegigaa
open Go.RowKit Go.Shelf Go.Lib
open Go.Sort (grow SWO PermIn SortedIn flatK HoldsK putRowK)
set_option maxRecDepth 100000
set_option maxHeartbeats 4000000
section
variable {α : Type} [Inhabited α]
theorem sortWorld_turns (enc : α → List Value) (w : World) (g m : Nat) (d : Array α) (os : Array Obj) : Turns (fun j => j = g) w (sortWorldK enc 6 w g 0 m d os) := by
  refine ⟨rfl, rfl, rfl, ?_, fun k hk hn => ?_⟩
  · unfold sortWorldK; rw [Go.Sort.size_grow]; unfold Go.Sort.putRowK; rw [Go.Sort.size_putRow]; exact Nat.le_add_right _ _
  · unfold sortWorldK
    rw [Go.Sort.heap_grow_old _ _ (by unfold Go.Sort.putRowK; rw [Go.Sort.size_putRow]; exact hk)]
    unfold Go.Sort.putRowK Go.Sort.putRow Go.Sort.mapBlock
    simp only [Array.getElem?_modify]
    rw [if_neg (fun e => hn e.symm)]
    rfl
theorem sortWorld_row (enc : α → List Value) (w : World) (g m : Nat) (d : Array α) (os : Array Obj) (cs : Array Value) (h : w.heap[g]? = some (.cells cs 37 (0, 0))) : (sortWorldK enc 6 w g 0 m d os).heap[g]? = some (.cells (Go.Sort.putCells id 0 (flatK enc 6 d) cs) 37 (0, 0)) := by
  have hg := lt_of_heap h
  unfold sortWorldK
  rw [Go.Sort.heap_grow_old _ _ (by unfold Go.Sort.putRowK; rw [Go.Sort.size_putRow]; exact hg)]
  unfold Go.Sort.putRowK Go.Sort.putRow Go.Sort.mapBlock
  simp only [Array.getElem?_modify, if_true]
  show Option.map _ w.heap[g]? = _
  rw [h]
  rfl
end
theorem ins_none (p : Option Addr) (cap : Nat) (fv : Value) (w : World) : Calls Try.prog 85 #[.slice p 0 cap, .int .i64 0, .int .i64 0, fv] w fun e w' => e = .returned (.tuple #[]) ∧ w' = w := by
  go_enter Try.func85, Try.ntmps85
  go_wp2_with fail
  refine wp_loop_rounds 1 ?_
  rw [rounds_succ]
  go_wp2_with fail
  refine bodyPost_end (results_none Try.results85 _ _ _) rfl ?_
  exact ⟨rfl, rfl⟩
theorem pdq_none (p : Option Addr) (cap : Nat) (L : Int) (fv : Value) (w : World) : Calls Try.prog 81 #[.slice p 0 cap, .int .i64 0, .int .i64 0, .int .i64 L, fv] w fun e w' => e = .returned (.tuple #[]) ∧ w' = w := by
  go_enter Try.func81, Try.ntmps81
  go_wp2_with fail
  refine wp_loop_once ?_
  go_wp2_with fail
  refine (ins_none p cap fv _).mono ?_
  rintro e w1 ⟨rfl, rfl⟩
  go_wp2_with fail
  refine bodyPost_ret (results_none Try.results81 _ _ _) rfl ?_
  exact ⟨rfl, rfl⟩
theorem sort_none (p : Option Addr) (cap : Nat) (fv : Value) (w : World) : Calls Try.prog 72 #[.slice p 0 cap, fv] w fun e w' => e = .returned (.tuple #[]) ∧ w' = w := by
  go_enter Try.func72, Try.ntmps72
  go_wp2_with fail
  refine (len_any 0 (by decide) _).mono ?_
  rintro e w1 ⟨rfl, rfl⟩
  go_wp2_with fail
  refine (pdq_none p cap _ fv _).mono ?_
  rintro e w1 ⟨rfl, rfl⟩
  go_wp2_with fail
  go_end0
  exact ⟨rfl, rfl⟩
/-- Sorted by a level's order. -/
def SortF (lev : Nat) (R : List Tf) : Prop := ∀ (i j : Nat) (x y : Tf), i < j → R[i]? = some x → R[j]? = some y → ¬ cmpF lev y.f x.f < 0
theorem sortFunc_any (lev V g c B : Nat) (R : List Tf) (w : World) (hr : RowC w g 37 (c * 6) (flCells R)) (hlc : R.length ≤ c) (hft : ∀ x ∈ R, FT w B x) (hv : w.heap[V]? = some (.cells #[.int .i64 (lev : Nat)] 3 (0, 0))) (hn : R.length ≤ 1000000) :
    Calls Try.prog 72 #[.slice (some ⟨g, 0, none⟩) R.length c, .func (.func 73) #[] #[.pointer (some ⟨V, 0, none⟩)]] w fun e w' => e = .returned (.tuple #[]) ∧ ∃ R', R'.Perm R ∧ SortF lev R' ∧ RowC w' g 37 (c * 6) (flCells R') ∧ Turns (fun j => j = g) w w' := by
  cases hR : R with
  | nil =>
    subst hR
    exact (sort_none (some ⟨g, 0, none⟩) c _ w).mono fun e w' ⟨h1, h2⟩ => by
      subst h2
      exact ⟨h1, [], .refl _, fun i j x y _ hx => by simp at hx, hr, Turns.refl _ _⟩
  | cons x0 r0 =>
    rw [← hR]
    have hx0 : FT w B x0 := hft x0 (by rw [hR]; simp)
    have inh : Inhabited {x : Tf // FT w B x} := ⟨⟨x0, hx0⟩⟩
    obtain ⟨cs, hg, hsz, hcs⟩ := hr
    have hgl := lt_of_heap hg
    let enc : {x : Tf // FT w B x} → List Value := fun x => x.1.cells
    let d : Array {x : Tf // FT w B x} := (R.attach.map fun x => (⟨x.1, hft x.1 x.2⟩ : {x : Tf // FT w B x})).toArray
    have hds : d.size = R.length := by simp [d]
    have hdl : d.toList.map (·.1) = R := by simp [d]
    have hVg : V ≠ g := fun e => by rw [e, hg] at hv; cases hv
    have hVl := lt_of_heap hv
    have eg : ∀ args w, (callFunc 73 args).run Try.prog w = .ok (.enter 73 args) w := enters_of Try.func73 (by kernel_rfl) rfl
    have hcmp : CmpLays Try.prog 73 #[.pointer (some ⟨V, 0, none⟩)] enc 6 (fun x y => cmpF lev x.1.f y.1.f) g 0 d.size w := fun m os dk _ x y => by
      have t := sortWorld_turns enc w g m dk os
      have hne : ∀ z : {x : Tf // FT w B x}, FB (sortWorldK enc 6 w g 0 m dk os) z.1 := fun z => (z.2.keep t fun k e _ cs' z' e2 => by subst e; rw [hg] at e2; cases e2).fb
      exact sort1_any lev V x.1 y.1 _ (t.cell (cell_of_row w V 0 _ 3 (0, 0) hv) hVg) (hne x) (hne y)
    have hat : ∀ (dd : Array {x : Tf // FT w B x}) (j : Nat), j < dd.size * 6 → (flCells (dd.toList.map (·.1)))[j]? = some (flatK enc 6 dd)[j]! := fun dd j hj => by
      have hq : j / 6 < dd.size := by omega
      rw [Go.Sort.get_flatK enc 6 dd j hj]
      have h1 := flCells_at (dd.toList.map (·.1)) (j / 6) dd[j / 6]!.1 (by simp [hq]) (j % 6) (by omega)
      rw [show j / 6 * 6 + j % 6 = j by omega] at h1
      rw [h1]
      show _ = some (dd[j / 6]!.1.cells)[j % 6]!
      rw [List.getElem?_eq_getElem (by rw [Tf.cells_length]; omega), List.getElem!_eq_getElem?_getD, List.getElem?_eq_getElem (by rw [Tf.cells_length]; omega)]
      rfl
    have hH : HoldsK enc 6 w g 0 d := fun j hj => by
      rw [Go.Sort.size_flatK] at hj
      refine ⟨?_, by rw [Nat.zero_add]; exact frozen_of_row w g j _ 37 hg⟩
      rw [Nat.zero_add, cell_of_row w g j cs 37 (0, 0) hg, hcs j (by rw [flCells_length]; omega)]
      have := hat d j hj
      rw [hdl] at this
      exact this
    have hcon := AnyQ.slices_SortFunc Try.sort72 6 Try.isAgg37 Try.sizeOf37 enc (fun x => x.1.cells_length) (fun x v hv => x.1.cells_one v hv) (fun x y => cmpF lev x.1.f y.1.f) (cmpF_swo lev _) 73 #[.pointer (some ⟨V, 0, none⟩)] g 0 c d w eg hcmp hH hgl (by omega)
    rw [hds] at hcon
    refine (show Calls Try.prog 72 _ _ _ from hcon).mono fun e w' h => ?_
    obtain ⟨h1, d', n, os, hp, hs, rfl⟩ := h
    have hd's : d'.size = R.length := by rw [hp.1, hds]
    refine ⟨h1, d'.toList.map (·.1), ?_, fun i j x y hij hx hy => ?_, ⟨_, sortWorld_row enc w g n d' os cs hg, ?_, fun k hk => ?_⟩, sortWorld_turns enc w g n d' os⟩
    · have h2 := hp.2.2
      rw [← hds, Array.extract_size] at h2
      rw [show d.size = d'.size by omega, Array.extract_size] at h2
      have h3 := h2.map (·.1)
      rw [hdl] at h3
      exact h3
    · have hi : i < d'.size := by have := (List.getElem?_eq_some_iff.1 hx).1; simpa using this
      have hj : j < d'.size := by have := (List.getElem?_eq_some_iff.1 hy).1; simpa using this
      have h2 := hs i j (Nat.zero_le _) hij (by omega)
      simp [hi] at hx
      simp [hj] at hy
      unfold ltOf at h2
      simp only [decide_eq_false_iff_not] at h2
      rw [getElem!_pos d' i hi, getElem!_pos d' j hj] at h2
      rw [← hx, ← hy]
      exact h2
    · simp [Go.Sort.putCells]; exact hsz
    · rw [flCells_length, List.length_map, Array.length_toList] at hk
      have hkc : k < cs.size := by omega
      rw [hat d' k hk]
      simp only [Go.Sort.putCells, Array.getElem?_mapIdx, Array.getElem?_eq_getElem hkc, Option.map_some, id]
      rw [if_pos ⟨Nat.zero_le _, by rw [Go.Sort.size_flatK]; omega⟩, Nat.sub_zero]
end Go.Proofs.Ytmmcikbedegigaa
