/-
  All: the entries of all rows, merged.
-/
import Derived.Test.YtjnpendihdlgnaaCk
namespace Go.Proofs.Ytjnpendihdlgnaa
open Go.RowKit Go.Shelf
set_option maxRecDepth 100000
set_option maxHeartbeats 4000000
/-- Rows whose entries may be copied. -/
structure Fine (rs : List Rw) : Prop where
  rows : rs.length ≤ 1000000
  all : tot (hds rs) ≤ 1000000
  size : ∀ x, x ∈ allOf rs → x.e.key.length ≤ 1000000 ∧ x.e.val.length ≤ 1000000
theorem far_TM : Far TM := ⟨fun h => h.elim (by decide) (by decide), fun h => h.elim (by decide) (by decide), fun h => h.elim (by decide) (by decide), fun h => h.elim (by decide) (by decide)⟩
theorem all_bytes {w : World} {a : Option Addr} {rs : List Rw} (h : RowsIn w a rs) {x : Tow} (hx : x ∈ allOf rs) : Bytes w x.kv x.e.key ∧ Bytes w x.vv x.e.val := by
  obtain ⟨r, hr, hxr⟩ := List.mem_flatMap.1 hx
  obtain ⟨i, hi⟩ := List.getElem?_of_mem hr
  obtain ⟨j, hj⟩ := List.getElem?_of_mem hxr
  obtain ⟨_, h1, h2⟩ := (h i r hi).2.ents j x hj
  exact ⟨h1, h2⟩
theorem pairwise_of_ord {R : List Tow} (h : inOrd (ents R) = true) : R.Pairwise ltT := by
  induction R with
  | nil => exact List.Pairwise.nil
  | cons x r ih =>
    cases r with
    | nil => simp
    | cons y r =>
      have h1 : (decide (cmpE x.e.en y.e.en < 0) && inOrd (ents (y :: r))) = true := h
      rw [Bool.and_eq_true, decide_eq_true_eq] at h1
      have h2 := ih h1.2
      refine List.pairwise_cons.2 ⟨fun z hz => ?_, h2⟩
      rcases List.mem_cons.1 hz with rfl | hz
      · exact h1.1
      · have h3 := (List.pairwise_cons.1 h2).1 z hz
        unfold ltT at h3 ⊢
        exact cmpE_lt_le h1.1 (by omega)
theorem ord_up {rs : List Rw} (h : eachOrd rs = true) : ∀ (i : Nat) (x : Rw), rs[i]? = some x → x.R.Pairwise ltT := fun _ _ hi => pairwise_of_ord (List.all_eq_true.1 h _ (List.mem_of_getElem? hi))
/-- What All answers. -/
def AllOk (rs : List Rw) (R : List Tow) : Prop := (eachOrd rs = true ∧ ∃ xs, Mg (hds rs) xs ∧ R.map (·.e) = xs.map (·.e)) ∨ (eachOrd rs = false ∧ R = [])
theorem enters49 : ∀ args w, (callFunc 49 args).run Try.prog w = .ok (.enter 49 args) w := enters_of Try.func49 (by kernel_rfl) rfl
theorem all_any (a : Option Addr) (n c : Nat) (rs : List Rw) (w : World) (h : RowsIn w a rs) (hn : n = rs.length) (hf : Fine rs) :
    Calls Try.prog 10 #[.slice a n c] w fun e w' => ∃ v R, e = .returned (.tuple #[v, .int .i64 (ordE (eachOrd rs))]) ∧ ERow w' w.heap.size v R ∧ Shown w' w.heap.size R ∧ Below w.heap.size w w' ∧ AllOk rs R := by
  have hmx : n ≤ 1000000 := by have := hf.rows; omega
  have HC := hide (checkEach_any a n c rs w h hn hmx)
  have H0 := hide h
  have HN := hide hn
  have HF := hide hf
  clear h hn hf
  cases ho : eachOrd rs with
  | false =>
    rw [ho] at HC
    have HO := hide ho
    clear ho
    go_enter Try.func10, Try.ntmps10
    go_wp2_with fail
    refine HC.out.mono ?_
    rintro e w1 ⟨rfl, hb⟩
    rw [show ordE false = 2 from rfl]
    go_wp2_with fail
    go_ret2
    exact ⟨_, [], rfl, .inl ⟨rfl, rfl⟩, fun x hx => (by cases hx), hb, .inr ⟨HO.out, rfl⟩⟩
  | true =>
    rw [ho] at HC
    have HO := hide ho
    clear ho
    go_enter Try.func10, Try.ntmps10
    go_wp2_with fail
    refine HC.out.mono ?_
    rintro e w1 ⟨rfl, hb⟩
    rw [show ordE true = 0 from rfl]
    have HB1 := hide hb
    clear hb
    go_wp2_with fail
    refine (merged_any a n c w1).mono ?_
    rintro e w2 ⟨rfl, hw2⟩
    have t2 : Turns (fun _ => False) w1 w2 := by rw [hw2]; exact (Turns.refl _ w1).alloc _
    have hcell : w2.cell? ⟨w1.heap.size, 0, none⟩ = some (.slice a n c) := by rw [hw2]; exact cell_of_row _ _ 0 _ 28 (0, 0) (heap_alloc_new w1 _)
    have tA := (Turns.of_below HB1.out (fun _ => False)).trans t2
    have hr2 := H0.out.quiet tA
    have FO := hide (firstOf_any TM far_TM (fun x : El rs => x.val) 49 #[.pointer (some ⟨w1.heap.size, 0, none⟩)] _ _ (tot (hds rs)) w2 9223372036854775807 enters49 (merged_seq 4 w1.heap.size (by decide) a n c rs HN.out hmx (ord_up HO.out) w2 hr2 hcell) (fun x => ⟨(all_bytes hr2 x.2).1, (all_bytes hr2 x.2).2, (HF.out.size x.val x.2).1, (HF.out.size x.val x.2).2⟩) HF.out.all)
    have BA := hide (tA.below (Nat.le_refl _) (fun _ x => x.elim))
    have hs2 := tA.size
    clear hcell hr2 t2 tA hw2
    go_wp2_with fail
    refine FO.out.mono ?_
    rintro e w3 ⟨v, R, rfl, hE, hS, hb3, hFi⟩
    have FIN := hide (show ERow w3 w.heap.size v R ∧ Shown w3 w.heap.size R ∧ Below w.heap.size w w3 ∧ AllOk rs R by
      refine ⟨hE.le hs2, hS.le hs2, then_below BA.out hb3 (Nat.le_refl _), .inl ⟨HO.out, ?_⟩⟩
      rcases hFi with ⟨x, _⟩ | ⟨_, xs, h1, h2, _⟩ | ⟨_, pre, _, _, h3, h4⟩
      · omega
      · exact ⟨valsOf xs, h1, by rw [h2]; simp [valsOf]⟩
      · have := HF.out.all; omega)
    clear hE hS hb3 hFi
    go_wp2_with fail
    go_ret2
    exact ⟨v, R, rfl, FIN.out⟩
end Go.Proofs.Ytjnpendihdlgnaa
