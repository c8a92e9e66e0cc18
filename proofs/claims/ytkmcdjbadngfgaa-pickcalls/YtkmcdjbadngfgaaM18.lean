import Derived.Test.YtkmcdjbadngfgaaM11
/-
  The document's Deepest.
-/
namespace Go.Proofs.Ytkmcdjbadngfgaa
open Go.RowKit
set_option maxRecDepth 100000
set_option maxHeartbeats 4000000
theorem filesF_of {LL : List (List Fl)} {next seq log : Nat} {t : Nat} {l : List Fl} (h : wrongVF LL next seq log = false) (hl : LL[t]? = some l) : filesF LL next seq log (t : Int) = l := by
  have h5 := len_of_ok h
  have ht := (List.getElem?_eq_some_iff.1 hl).1
  unfold filesF
  rw [h, show goodLev (t : Int) = true by unfold goodLev; simp; omega]
  simp [List.getD, hl]
theorem deep_true {LL : List (List Fl)} {next seq log : Nat} {z : Int} {least most : List (BitVec 8)} (h : 0 ≤ z → ∀ t : Nat, z < (t : Int) → t < 5 → (filesF LL next seq log (t : Int)).filter (overF least most) = []) : deepF LL next seq log z least most = true := by
  unfold deepF
  by_cases hz : z < 0
  · simp [hz]
  by_cases hw : wrongVF LL next seq log = true
  · simp [hw]
  rw [Bool.not_eq_true] at hw
  have h5 := len_of_ok hw
  have : (LL.zipIdx.any fun p => decide (z < (p.2 : Int)) && p.1.any (overF least most)) = false := by
    rw [List.any_eq_false]
    rintro ⟨l, t⟩ hp hq
    simp only [Bool.and_eq_true, decide_eq_true_eq] at hq
    have hl := List.mem_zipIdx_iff_getElem?.1 hp
    have ht := (List.getElem?_eq_some_iff.1 hl).1
    have h1 := h (by omega) t hq.1 (by omega)
    rw [filesF_of hw hl] at h1
    obtain ⟨f, hf, hof⟩ := List.any_eq_true.1 hq.2
    have : f ∈ l.filter (overF least most) := List.mem_filter.2 ⟨hf, hof⟩
    rw [h1] at this
    simp at this
  simp [this]
theorem deep_false {LL : List (List Fl)} {next seq log : Nat} {z : Int} {least most : List (BitVec 8)} (hz : 0 ≤ z) {t : Nat} (ht : z < (t : Int)) (h : (filesF LL next seq log (t : Int)).filter (overF least most) ≠ []) : deepF LL next seq log z least most = false := by
  have hw : wrongVF LL next seq log = false := by
    rw [← Bool.not_eq_true]
    intro q
    rw [filesF_bad (.inl q)] at h
    exact h rfl
  have hg : goodLev (t : Int) = true := by
    rw [← Bool.not_eq_false]
    intro q
    rw [filesF_bad (.inr q)] at h
    exact h rfl
  have h5 := len_of_ok hw
  have ht5 : t < 5 := by unfold goodLev at hg; simp at hg; omega
  obtain ⟨l, hl⟩ : ∃ l, LL[t]? = some l := ⟨_, List.getElem?_eq_getElem (by omega)⟩
  rw [filesF_of hw hl] at h
  unfold deepF
  have : (LL.zipIdx.any fun p => decide (z < (p.2 : Int)) && p.1.any (overF least most)) = true := by
    rw [List.any_eq_true]
    refine ⟨(l, t), List.mem_zipIdx_iff_getElem?.2 hl, ?_⟩
    simp only [Bool.and_eq_true, decide_eq_true_eq]
    refine ⟨ht, ?_⟩
    rw [List.any_eq_true]
    obtain ⟨f, hf⟩ := List.exists_mem_of_ne_nil _ h
    exact ⟨f, (List.mem_filter.1 hf).1, (List.mem_filter.1 hf).2⟩
  simp [this, hw]
  omega
theorem rDeepest_any (a : Option Addr) (n c next seq log : Nat) (L : List Lv) (z : Int) (a1 : Option Addr) (n1 c1 : Nat) (a2 : Option Addr) (n2 c2 : Nat) (least most : List (BitVec 8)) (w : World) (h : VerIn w a n L next seq log) (b1 : Bytes w (.slice a1 n1 c1) least) (b2 : Bytes w (.slice a2 n2 c2) most) (m1 : n1 ≤ 1000000) (m2 : n2 ≤ 1000000) :
    Calls Try.prog 33 #[verAgg a n c next seq log, .int .i64 z, .slice a1 n1 c1, .slice a2 n2 c2] w fun e w' => e = .returned (.bool (deepF (flL L) next seq log z least most)) ∧ Turns (fun _ => False) w w' := by
  have TA := hide ((Turns.refl (fun _ => False) w).alloc (.cells #[.slice a n c, .int .u64 (next : Nat), .int .u64 (seq : Nat), .int .u64 (log : Nat)] 25))
  have R0 := hide (heap_alloc_new w (.cells #[.slice a n c, .int .u64 (next : Nat), .int .u64 (seq : Nat), .int .u64 (log : Nat)] 25))
  have CO := hide (fun (u : World) (t : Turns (fun _ => False) w u) (q : Int) => rOverlap_any a n c next seq log L q a1 n1 c1 a2 n2 c2 least most u (h.quiet t) (b1.quiet t) (b2.quiet t) m1 m2)
  have HDT := hide (fun q => show Value.bool true = .bool (deepF (flL L) next seq log z least most) by rw [deep_true (LL := flL L) (next := next) (seq := seq) (log := log) (z := z) (least := least) (most := most) q])
  have HDF := hide (fun (hz : 0 ≤ z) (t : Nat) (ht : z < (t : Int)) (q : (filesF (flL L) next seq log (t : Int)).filter (overF least most) ≠ []) => show Value.bool false = .bool (deepF (flL L) next seq log z least most) by rw [deep_false hz ht q])
  obtain ⟨k0, hk0⟩ : ∃ k0 : Nat, min 5 (max 0 z) + 1 = (k0 : Int) := ⟨(min 5 (max 0 z) + 1).toNat, by omega⟩
  have HK0 := hide hk0
  have hk6 : k0 ≤ 6 := by omega
  unfold verAgg at *
  clear h b1 b2 hk0
  generalize deepF (flL L) next seq log z least most = CV at *
  go_enter Try.func33, Try.ntmps33
  go_wp2_with fail
  generalize w.alloc (.cells #[.slice a n c, .int .u64 (next : Nat), .int .u64 (seq : Nat), .int .u64 (log : Nat)] 25) = w0 at *
  generalize w.heap.size = P at *
  go_loopw [9] (fun i wr => ∃ k : Nat, i = .int .i64 (k : Nat) ∧ k0 ≤ k ∧ k ≤ 6 ∧ (0 ≤ z → ∀ t : Nat, k0 ≤ t → t < k → (filesF (flL L) next seq log (t : Int)).filter (overF least most) = []) ∧ Turns (fun _ => False) w0 wr) (fun i _ => 6 - (intOf i).toNat)
  case atStart => exact ⟨k0, by rw [HK0.out], Nat.le_refl _, hk6, fun _ t h1 h2 => absurd h1 (by omega), Turns.refl _ _⟩
  case round =>
    obtain ⟨k, rfl, hk, hk', hall, hb⟩ := hrel
    have HB := hide (TA.out.trans hb)
    have HB0 := hide hb
    have HALL := hide hall
    have v0 : wr.cell? ⟨P, 0, none⟩ = some (.slice a n c) := hb.cell (cell_of_row w0 P 0 _ 25 (0, 0) R0.out) (fun x => x)
    have v1 : wr.cell? ⟨P, 1, none⟩ = some (.int .u64 (next : Nat)) := hb.cell (cell_of_row w0 P 1 _ 25 (0, 0) R0.out) (fun x => x)
    have v2 : wr.cell? ⟨P, 2, none⟩ = some (.int .u64 (seq : Nat)) := hb.cell (cell_of_row w0 P 2 _ 25 (0, 0) R0.out) (fun x => x)
    have v3 : wr.cell? ⟨P, 3, none⟩ = some (.int .u64 (log : Nat)) := hb.cell (cell_of_row w0 P 3 _ 25 (0, 0) R0.out) (fun x => x)
    clear hb hall
    by_cases hk5 : k < 5
    · have i5 : (k : Int) < 5 := by omega
      by_cases hz : 0 ≤ z
      · have HZ := hide hz
        have HKZ := hide (show z < (k : Int) by have := HK0.out; omega)
        go_wp2_with fail
        refine (CO.out _ HB.out _).mono ?_
        rintro e w1 ⟨xa, xn, xc, R, rfl, hxn, _, hfl, _, t1⟩
        have T1 := hide t1
        have HXN := hide hxn
        have HFL := hide hfl
        clear t1 hxn hfl v0 v1 v2 v3
        by_cases hx0 : xn = 0
        · subst hx0
          go_wp2_with fail
          go_roundw
          case rel =>
            refine ⟨k + 1, by go_num, by omega, by omega, fun hz t h1 h2 => ?_, HB0.out.trans T1.out⟩
            rcases Nat.lt_or_ge t k with h | h
            · exact HALL.out hz t h1 h
            · obtain rfl : t = k := by omega
              rw [← HFL.out]
              have := HXN.out
              cases R with
              | nil => rfl
              | cons x r => simp at this
          case measure => simp [intOf]; omega
        · have hx1 : (0 : Int) < (xn : Int) := by omega
          have HV := hide (HDF.out HZ.out k HKZ.out (by
            rw [← HFL.out]
            intro q
            have h1 := congrArg List.length q
            have h2 := HXN.out
            simp only [fls, List.length_map, List.length_nil] at h1
            omega))
          go_wp2_with fail
          go_ret
          exact ⟨congrArg Ending.returned HV.out, HB.out.trans T1.out⟩
      · go_wp2_with fail
        go_roundw
        case rel => exact ⟨k + 1, by go_num, by omega, by omega, fun hz' => absurd hz' hz, HB0.out⟩
        case measure => simp [intOf]; omega
    · have i5 : ¬ (k : Int) < 5 := by omega
      have HV := hide (HDT.out (fun hz t h1 h2 => HALL.out hz t (by have := HK0.out; omega) (by omega)))
      clear hk5
      go_wp2_with fail
      go_ret
      exact ⟨congrArg Ending.returned HV.out, HB.out⟩
end Go.Proofs.Ytkmcdjbadngfgaa
