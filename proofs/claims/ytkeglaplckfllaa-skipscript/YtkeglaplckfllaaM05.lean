import Derived.Test.YtkeglaplckfllaaM04
import Derived.Laws.Rows
import Derived.Laws.Tables
/-
  Check and CheckEntry.
-/
namespace Go.Proofs.Ytkeglaplckfllaa
open Go.RowKit
set_option maxRecDepth 100000
set_option maxHeartbeats 4000000
theorem isLong_any (s : Nat) (hs : s < 18446744073709551616) (hs0 : 0 < s) (a : Option Addr) (n c : Nat) (xs : List Wr) (w : World) (h : Wrs w (.slice a n c) xs) (hm : Smol xs) (h0 : 0 < n) :
    Calls Try.prog 62 #[.agg #[.int .u64 s, .slice a n c]] w fun e w' => e = .returned (.bool (decide (xs.any longW = true ∨ 72057594037927935 < s ∨ 72057594037927935 < s + xs.length - 1))) ∧ Below w.heap.size w w' := by
  have hl := h.len
  have hn : n ≤ 300 := by have := hm.len; omega
  have hb0 := (Below.refl w.heap.size w).alloc (Nat.le_refl _) (.cells #[.int .u64 s, .slice a n c] 80)
  have HNEW := hide (heap_alloc_new w (.cells #[.int .u64 s, .slice a n c] 80))
  have H := hide (h.below hb0)
  have HL := hide hl
  have HM := hide hm
  have HB0 := hide hb0
  clear h hl hm hb0
  go_enter Try.func62, Try.ntmps62
  go_wp2_with fail
  refine (contains_long a n c xs _ H.out (by omega)).mono ?_
  rintro e w1 ⟨rfl, b1⟩
  have hnew1 := heap_keep b1 HNEW.out
  have HN1 := hide hnew1
  have f0 : w1.cell? ⟨w.heap.size, 0, none⟩ = some (.int .u64 s) := cell_of_row w1 _ 0 _ 80 (0, 0) hnew1
  have f1 : w1.cell? ⟨w.heap.size, 1, none⟩ = some (.slice a n c) := cell_of_row w1 _ 1 _ 80 (0, 0) hnew1
  have H1 := hide (H.out.below b1)
  have B1 := hide (HB0.out.trans (b1.mono HB0.out.size))
  clear b1 hnew1 HB0 HNEW H
  generalize hq : xs.any longW = q
  have HQ := hide hq
  clear hq
  cases q
  · by_cases hbig : 72057594037927935 < s
    · have hbig' : (72057594037927935 : Int) < (s : Int) := by omega
      go_wp2_with fail
      go_ret
      exact ⟨congrArg Ending.returned (congrArg Value.bool (decide_eq_true (Or.inr (Or.inl hbig))).symm), B1.out⟩
    · have hbig' : ¬ (72057594037927935 : Int) < (s : Int) := by omega
      go_wp2_with fail
      refine (last_any s a n c _).mono ?_
      rintro e w2 ⟨rfl, b2⟩
      have hnew2 := heap_keep b2 HN1.out
      have g0 : w2.cell? ⟨w.heap.size, 0, none⟩ = some (.int .u64 s) := cell_of_row w2 _ 0 _ 80 (0, 0) hnew2
      have g1 : w2.cell? ⟨w.heap.size, 1, none⟩ = some (.slice a n c) := cell_of_row w2 _ 1 _ 80 (0, 0) hnew2
      have H2 := hide (H1.out.below b2)
      have B2 := hide (B1.out.trans (b2.mono B1.out.size))
      clear b2 hnew2 f0 f1
      rw [show (s + n + 18446744073709551615) % 18446744073709551616 = s + n - 1 by omega]
      generalize hL : s + n - 1 = L
      have HLL := hide hL
      clear hL
      by_cases hlast : 72057594037927935 < L
      · have hlast' : (72057594037927935 : Int) < (L : Int) := by omega
        go_wp2_with fail
        go_ret
        refine ⟨?_, B2.out⟩
        have := HL.out
        have := HLL.out
        exact congrArg Ending.returned (congrArg Value.bool (decide_eq_true (Or.inr (Or.inr (by omega)))).symm)
      · have hlast' : ¬ (72057594037927935 : Int) < (L : Int) := by omega
        go_wp2_with fail
        refine (sizeB_any s hs a n c xs _ H2.out HM.out).mono ?_
        rintro e w3 ⟨rfl, b3⟩
        have HZ := hide (sizeN_le s HM.out)
        have B3 := hide (B2.out.trans (b3.mono B2.out.size))
        have hz := sizeN_le s HM.out
        have hz' : ¬ (1048576 : Int) < sizeN s xs := by omega
        clear b3
        go_wp2_with fail
        go_ret
        refine ⟨?_, B3.out⟩
        have := HL.out
        have := HLL.out
        refine congrArg Ending.returned (congrArg Value.bool ((decide_eq_false (by have := HZ.out; omega)).trans (decide_eq_false ?_).symm))
        rintro (h | h | h)
        · rw [HQ.out] at h; cases h
        · omega
        · omega
  · go_wp2_with fail
    go_ret
    exact ⟨congrArg Ending.returned (congrArg Value.bool (decide_eq_true (Or.inl HQ.out)).symm), B1.out⟩
theorem check_any (s : Nat) (hs : s < 18446744073709551616) (a : Option Addr) (n c : Nat) (xs : List Wr) (w : World) (h : Wrs w (.slice a n c) xs) (hm : Smol xs) :
    Calls Try.prog 50 #[.agg #[.int .u64 s, .slice a n c]] w fun e w' => e = .returned (.int .i64 (chk s xs)) ∧ Below w.heap.size w w' := by
  have hl := h.len
  have hn : n ≤ 300 := by have := hm.len; omega
  have hb0 := (Below.refl w.heap.size w).alloc (Nat.le_refl _) (.cells #[.int .u64 s, .slice a n c] 80)
  have HNEW := hide (heap_alloc_new w (.cells #[.int .u64 s, .slice a n c] 80))
  have H := hide (h.below hb0)
  have HL := hide hl
  have HM := hide hm
  have HB0 := hide hb0
  clear h hl hm hb0
  by_cases h0 : s = 0
  · subst h0
    go_enter Try.func50, Try.ntmps50
    go_wp2_with fail
    go_ret
    exact ⟨by simp [chk], HB0.out⟩
  · have h0' : ¬ (s : Int) = 0 := by omega
    by_cases hn0 : n = 0
    · subst hn0
      have hx : xs = [] := by have := HL.out; simpa using this.symm
      subst hx
      go_enter Try.func50, Try.ntmps50
      go_wp2_with fail
      go_ret
      exact ⟨by simp [chk], HB0.out⟩
    · have hn0' : ¬ (n : Int) = 0 := by omega
      have hne : xs ≠ [] := by intro e; have := HL.out; rw [e] at this; simp at this; omega
      go_enter Try.func50, Try.ntmps50
      go_wp2_with fail
      refine (contains_wrong a n c xs _ H.out (by omega)).mono ?_
      rintro e w1 ⟨rfl, b1⟩
      have hnew1 := heap_keep b1 HNEW.out
      have f0 : w1.cell? ⟨w.heap.size, 0, none⟩ = some (.int .u64 s) := cell_of_row w1 _ 0 _ 80 (0, 0) hnew1
      have f1 : w1.cell? ⟨w.heap.size, 1, none⟩ = some (.slice a n c) := cell_of_row w1 _ 1 _ 80 (0, 0) hnew1
      have H1 := hide (H.out.below b1)
      have B1 := hide (HB0.out.trans (b1.mono HB0.out.size))
      clear b1 hnew1 HB0 HNEW H
      have hchk : chk s xs = if xs.any wrongW = true then 2 else if xs.any longW = true ∨ 72057594037927935 < s ∨ 72057594037927935 < s + xs.length - 1 then 3 else 0 := by
        unfold chk
        by_cases hw : xs.any wrongW = true
        · rw [if_pos (.inr (.inr hw)), if_pos hw]
        · rw [if_neg (by rintro (h | h | h); exact h0 h; exact hne h; exact hw h), if_neg hw]
      have HC := hide hchk
      have HNE := hide hne
      clear hchk hne
      generalize hq : xs.any wrongW = q
      have HQ := hide hq
      clear hq
      cases q
      · go_wp2_with fail
        refine (isLong_any s hs (by omega) a n c xs _ H1.out HM.out (by omega)).mono ?_
        rintro e w2 ⟨rfl, b2⟩
        have B2 := hide (B1.out.trans (b2.mono B1.out.size))
        clear b2
        by_cases hp : (xs.any longW = true ∨ 72057594037927935 < s ∨ 72057594037927935 < s + xs.length - 1)
        · rw [decide_eq_true hp]
          go_wp2_with fail
          go_ret
          exact ⟨by rw [HC.out, HQ.out, if_neg (by decide), if_pos hp]; rfl, B2.out⟩
        · rw [decide_eq_false hp]
          go_wp2_with fail
          go_ret
          exact ⟨by rw [HC.out, HQ.out, if_neg (by decide), if_neg hp]; rfl, B2.out⟩
      · go_wp2_with fail
        go_ret
        exact ⟨by rw [HC.out, HQ.out]; rfl, B1.out⟩
theorem info31 : (Try.prog.info? 80).map (·.size) = some 2 := by kernel_rfl
theorem info24 : (Try.prog.info? 83).map (·.size) = some 3 := by kernel_rfl
section
variable {P : Program}
theorem results_cell_tmp {fn : Func} {j p : Tmp} {ty : TypeId} (h : fn.results = #[.cell p ty, .tmp j]) (tmps : Array Value) (w : World) (u : Value) (g : Nat) (t : TypeId) (cs : Array Value) (fr : Nat × Nat) (d : TypeDesc)
    (hu' : tmps.getD j undef = u) (hp : tmps.getD p undef = .pointer (some ⟨g, 0, none⟩)) (hg : w.heap[g]? = some (.cells cs t fr))
    (hu : P.underlying ty = some d) (hd : (match d with | .struct _ | .array _ _ => true | _ => false) = true) (hi : (P.info? ty).map (·.size) = some cs.size) :
    (results fn tmps).run P w = .ok (.tuple #[.agg cs, u]) w := by
  have hp' : tmps[p]?.getD undef = .pointer (some ⟨g, 0, none⟩) := by simpa using hp
  have hw' : tmps[j]?.getD undef = u := by simpa using hu'
  simp [results, h, hp', hw', asAddr, run_loadVar_row w g t ty cs fr d hg hu hd hi]
end
theorem batchOf_any (s : Nat) (a : Option Addr) (n c : Nat) (w : World) : Calls Try.prog 51 #[.int .u64 s, .slice a n c] w fun e w' => e = .returned (.agg #[.int .u64 s, .slice a n c]) ∧ Below w.heap.size w w' := by
  have hr := hide (heap_alloc_new w (.cells #[.int .u64 s, .slice a n c] 80))
  go_enter Try.func51, Try.ntmps51
  go_wp2_with fail
  refine bodyPost_ret (v := .agg #[.int .u64 s, .slice a n c]) ?_ rfl ?_
  · exact results_cell_row Try.results51 _ _ _ _ _ _ _ rfl hr.out Try.underlying80 rfl info31
  · exact ⟨rfl, (Below.refl _ _).alloc (Nat.le_refl _) _⟩
/-- One write in a row of its own. -/
theorem wrs_one {w : World} {g : Nat} {e : TypeId} {k : Int} {ka va : Option Addr} {kn kc vn vc c : Nat} {key val : List (BitVec 8)} (hg : w.heap[g]? = some (.cells #[.int .i64 k, .slice ka kn kc, .slice va vn vc] e (0, 0))) (h1 : Bytes w (.slice ka kn kc) key) (h2 : Bytes w (.slice va vn vc) val) :
    Wrs w (.slice (some ⟨g, 0, none⟩) 1 c) [(k, key, val)] := by
  have e1 := h1.len
  have e2 := h2.len
  subst e1 e2
  refine ⟨_, c, rfl, fun j x hx => ?_⟩
  match j, hx with
  | 0, hx =>
    obtain rfl : (k, key, val) = x := by simpa using hx
    exact ⟨g, 0, rfl, cell_of_row w g 0 _ e (0, 0) hg, ka, kc, va, vc, cell_of_row w g 1 _ e (0, 0) hg, cell_of_row w g 2 _ e (0, 0) hg, h1, h2⟩
  | j + 1, hx => simp at hx
theorem checkEntry_any (s : Nat) (hs : s < 18446744073709551616) (k : Int) (ka va : Option Addr) (kn kc vn vc : Nat) (key val : List (BitVec 8)) (w : World) (h1 : Bytes w (.slice ka kn kc) key) (h2 : Bytes w (.slice va vn vc) val) (hm : Smol [(k, key, val)]) :
    Calls Try.prog 36 #[.agg #[.slice ka kn kc, .int .u64 s, .int .i64 k, .slice va vn vc]] w fun e w' => e = .returned (.int .i64 (chk s [(k, key, val)])) ∧ Below w.heap.size w w' := by
  have b0 := (Below.refl w.heap.size w).alloc (Nat.le_refl _) (.cells #[.slice ka kn kc, .int .u64 s, .int .i64 k, .slice va vn vc] 29)
  have b1 := b0.alloc b0.size (.cells #[.int .i64 k, .slice ka kn kc, .slice va vn vc] 83)
  have hw := hide (wrs_one (c := 1) (heap_alloc_new (w.alloc (.cells #[.slice ka kn kc, .int .u64 s, .int .i64 k, .slice va vn vc] 29)) (.cells #[.int .i64 k, .slice ka kn kc, .slice va vn vc] 83)) (h1.below b1) (h2.below b1))
  have B1 := hide b1
  have HM := hide hm
  clear b0 b1 h1 h2 hm
  go_enter Try.func36, Try.ntmps36
  go_wp2_with fail
  refine (batchOf_any s _ 1 1 _).mono ?_
  rintro e w1 ⟨rfl, b2⟩
  have hw1 := hide (hw.out.below b2)
  have B2 := hide (B1.out.trans (b2.mono B1.out.size))
  rw [World.size_alloc] at hw1
  clear b2 hw
  go_wp2_with fail
  refine (check_any s hs _ 1 1 [(k, key, val)] _ hw1.out HM.out).mono ?_
  rintro e w2 ⟨rfl, b3⟩
  have B3 := hide (B2.out.trans (b3.mono B2.out.size))
  clear b3
  go_wp2_with fail
  go_ret
  exact ⟨rfl, B3.out⟩
end Go.Proofs.Ytkeglaplckfllaa
