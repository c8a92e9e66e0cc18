import Derived.Test.YtjklbhdhjfifhaaGreatM15
import Derived.Laws.Rows
import Derived.Laws.Tables
import Derived.Deep.Light
import Derived.Test.YtjklbhdhjfifhaaGreatM01
import Derived.Test.YtjklbhdhjfifhaaGreatRows
import Derived.Test.YtjklbhdhjfifhaaGreatM03
import Derived.WalkKit
import Derived.WalkSpells
import Derived.WalkLawsBesides
/-
  Check and CheckEntry.
-/
namespace Go.Proofs.YtjklbhdhjfifhaaGreat
open Go.RowKit
set_option maxRecDepth 100000
set_option maxHeartbeats 4000000
theorem isLong_any (s : Nat) (hs : s < 18446744073709551616) (hs0 : 0 < s) (a : Option Addr) (n c : Nat) (xs : List Wr) (w : World) (h : Wrs w (.slice a n c) xs) (hm : Smol xs) (h0 : 0 < n) :
    Calls Tryz.prog 180 #[.agg #[.int .u64 s, .slice a n c]] w fun e w' => e = .returned (.bool (decide (xs.any longW = true ∨ 72057594037927935 < s ∨ 72057594037927935 < s + xs.length - 1))) ∧ Below w.heap.size w w' := by
  have hl := h.len
  have hn : n ≤ 300 := by have := hm.len; omega
  have hb0 := (Below.refl w.heap.size w).alloc (Nat.le_refl _) (.cells #[.int .u64 s, .slice a n c] 204)
  have HNEW := hide (heap_alloc_new w (.cells #[.int .u64 s, .slice a n c] 204))
  have H := hide (h.below hb0)
  have HL := hide hl
  have HM := hide hm
  have HB0 := hide hb0
  clear h hl hm hb0
  go_enter Tryz.func180, Tryz.ntmps180
  go_wp2_with fail
  refine (contains_long a n c xs _ H.out (by omega)).mono ?_
  rintro e w1 ⟨rfl, b1⟩
  have hnew1 := heap_keep b1 HNEW.out
  have HN1 := hide hnew1
  have f0 : w1.cell? ⟨w.heap.size, 0, none⟩ = some (.int .u64 s) := cell_of_row w1 _ 0 _ 204 (0, 0) hnew1
  have f1 : w1.cell? ⟨w.heap.size, 1, none⟩ = some (.slice a n c) := cell_of_row w1 _ 1 _ 204 (0, 0) hnew1
  have H1 := hide (H.out.below b1)
  have B1 := hide (HB0.out.trans (b1.mono HB0.out.size))
  clear b1 hnew1 HB0 HNEW H
  generalize hq : xs.any longW = q
  have HQ := hide hq
  clear hq
  cases q
  · by_cases hbig : 72057594037927935 < s
    · have hbig' : (72057594037927935 : Int) < (s : Int) := by omega
      go_wp2_with fail
      go_ret
      exact ⟨congrArg Ending.returned (congrArg Value.bool (decide_eq_true (Or.inr (Or.inl hbig))).symm), B1.out⟩
    · have hbig' : ¬ (72057594037927935 : Int) < (s : Int) := by omega
      go_wp2_with fail
      refine (last_any s a n c _).mono ?_
      rintro e w2 ⟨rfl, b2⟩
      have hnew2 := heap_keep b2 HN1.out
      have g0 : w2.cell? ⟨w.heap.size, 0, none⟩ = some (.int .u64 s) := cell_of_row w2 _ 0 _ 204 (0, 0) hnew2
      have g1 : w2.cell? ⟨w.heap.size, 1, none⟩ = some (.slice a n c) := cell_of_row w2 _ 1 _ 204 (0, 0) hnew2
      have H2 := hide (H1.out.below b2)
      have B2 := hide (B1.out.trans (b2.mono B1.out.size))
      clear b2 hnew2 f0 f1
      rw [show (s + n + 18446744073709551615) % 18446744073709551616 = s + n - 1 by omega]
      generalize hL : s + n - 1 = L
      have HLL := hide hL
      clear hL
      by_cases hlast : 72057594037927935 < L
      · have hlast' : (72057594037927935 : Int) < (L : Int) := by omega
        go_wp2_with fail
        go_ret
        refine ⟨?_, B2.out⟩
        have := HL.out
        have := HLL.out
        exact congrArg Ending.returned (congrArg Value.bool (decide_eq_true (Or.inr (Or.inr (by omega)))).symm)
      · have hlast' : ¬ (72057594037927935 : Int) < (L : Int) := by omega
        go_wp2_with fail
        refine (sizeB_any s hs a n c xs _ H2.out HM.out).mono ?_
        rintro e w3 ⟨rfl, b3⟩
        have HZ := hide (sizeN_le s HM.out)
        have B3 := hide (B2.out.trans (b3.mono B2.out.size))
        have hz := sizeN_le s HM.out
        have hz' : ¬ (1048576 : Int) < sizeN s xs := by omega
        clear b3
        go_wp2_with fail
        go_ret
        refine ⟨?_, B3.out⟩
        have := HL.out
        have := HLL.out
        refine congrArg Ending.returned (congrArg Value.bool ((decide_eq_false (by have := HZ.out; omega)).trans (decide_eq_false ?_).symm))
        rintro (h | h | h)
        · rw [HQ.out] at h; cases h
        · omega
        · omega
  · go_wp2_with fail
    go_ret
    exact ⟨congrArg Ending.returned (congrArg Value.bool (decide_eq_true (Or.inl HQ.out)).symm), B1.out⟩
theorem check_any (s : Nat) (hs : s < 18446744073709551616) (a : Option Addr) (n c : Nat) (xs : List Wr) (w : World) (h : Wrs w (.slice a n c) xs) (hm : Smol xs) :
    Calls Tryz.prog 145 #[.agg #[.int .u64 s, .slice a n c]] w fun e w' => e = .returned (.int .i64 (chk s xs)) ∧ Below w.heap.size w w' := by
  have hl := h.len
  have hn : n ≤ 300 := by have := hm.len; omega
  have hb0 := (Below.refl w.heap.size w).alloc (Nat.le_refl _) (.cells #[.int .u64 s, .slice a n c] 204)
  have HNEW := hide (heap_alloc_new w (.cells #[.int .u64 s, .slice a n c] 204))
  have H := hide (h.below hb0)
  have HL := hide hl
  have HM := hide hm
  have HB0 := hide hb0
  clear h hl hm hb0
  by_cases h0 : s = 0
  · subst h0
    go_enter Tryz.func145, Tryz.ntmps145
    go_wp2_with fail
    go_ret
    exact ⟨by simp [chk], HB0.out⟩
  · have h0' : ¬ (s : Int) = 0 := by omega
    by_cases hn0 : n = 0
    · subst hn0
      have hx : xs = [] := by have := HL.out; simpa using this.symm
      subst hx
      go_enter Tryz.func145, Tryz.ntmps145
      go_wp2_with fail
      go_ret
      exact ⟨by simp [chk], HB0.out⟩
    · have hn0' : ¬ (n : Int) = 0 := by omega
      have hne : xs ≠ [] := by intro e; have := HL.out; rw [e] at this; simp at this; omega
      go_enter Tryz.func145, Tryz.ntmps145
      go_wp2_with fail
      refine (contains_wrong a n c xs _ H.out (by omega)).mono ?_
      rintro e w1 ⟨rfl, b1⟩
      have hnew1 := heap_keep b1 HNEW.out
      have f0 : w1.cell? ⟨w.heap.size, 0, none⟩ = some (.int .u64 s) := cell_of_row w1 _ 0 _ 204 (0, 0) hnew1
      have f1 : w1.cell? ⟨w.heap.size, 1, none⟩ = some (.slice a n c) := cell_of_row w1 _ 1 _ 204 (0, 0) hnew1
      have H1 := hide (H.out.below b1)
      have B1 := hide (HB0.out.trans (b1.mono HB0.out.size))
      clear b1 hnew1 HB0 HNEW H
      have hchk : chk s xs = if xs.any wrongW = true then 2 else if xs.any longW = true ∨ 72057594037927935 < s ∨ 72057594037927935 < s + xs.length - 1 then 3 else 0 := by
        unfold chk
        by_cases hw : xs.any wrongW = true
        · rw [if_pos (.inr (.inr hw)), if_pos hw]
        · rw [if_neg (by rintro (h | h | h); exact h0 h; exact hne h; exact hw h), if_neg hw]
      have HC := hide hchk
      have HNE := hide hne
      clear hchk hne
      generalize hq : xs.any wrongW = q
      have HQ := hide hq
      clear hq
      cases q
      · go_wp2_with fail
        refine (isLong_any s hs (by omega) a n c xs _ H1.out HM.out (by omega)).mono ?_
        rintro e w2 ⟨rfl, b2⟩
        have B2 := hide (B1.out.trans (b2.mono B1.out.size))
        clear b2
        by_cases hp : (xs.any longW = true ∨ 72057594037927935 < s ∨ 72057594037927935 < s + xs.length - 1)
        · rw [decide_eq_true hp]
          go_wp2_with fail
          go_ret
          exact ⟨by rw [HC.out, HQ.out, if_neg (by decide), if_pos hp]; rfl, B2.out⟩
        · rw [decide_eq_false hp]
          go_wp2_with fail
          go_ret
          exact ⟨by rw [HC.out, HQ.out, if_neg (by decide), if_neg hp]; rfl, B2.out⟩
      · go_wp2_with fail
        go_ret
        exact ⟨by rw [HC.out, HQ.out]; rfl, B1.out⟩
theorem info31 : (Tryz.prog.info? 204).map (·.size) = some 2 := by kernel_rfl
section
variable {P : Program}
theorem results_cell_tmp {fn : Func} {j p : Tmp} {ty : TypeId} (h : fn.results = #[.cell p ty, .tmp j]) (tmps : Array Value) (w : World) (u : Value) (g : Nat) (t : TypeId) (cs : Array Value) (fr : Nat × Nat) (d : TypeDesc)
    (hu' : tmps.getD j undef = u) (hp : tmps.getD p undef = .pointer (some ⟨g, 0, none⟩)) (hg : w.heap[g]? = some (.cells cs t fr))
    (hu : P.underlying ty = some d) (hd : (match d with | .struct _ | .array _ _ => true | _ => false) = true) (hi : (P.info? ty).map (·.size) = some cs.size) :
    (results fn tmps).run P w = .ok (.tuple #[.agg cs, u]) w := by
  have hp' : tmps[p]?.getD undef = .pointer (some ⟨g, 0, none⟩) := by simpa using hp
  have hw' : tmps[j]?.getD undef = u := by simpa using hu'
  simp [results, h, hp', hw', asAddr, run_loadVar_row w g t ty cs fr d hg hu hd hi]
end
theorem batchOf_any (s : Nat) (a : Option Addr) (n c : Nat) (w : World) : Calls Tryz.prog 146 #[.int .u64 s, .slice a n c] w fun e w' => e = .returned (.agg #[.int .u64 s, .slice a n c]) ∧ Below w.heap.size w w' := by
  have hr := hide (heap_alloc_new w (.cells #[.int .u64 s, .slice a n c] 204))
  go_enter Tryz.func146, Tryz.ntmps146
  go_wp2_with fail
  refine bodyPost_ret (v := .agg #[.int .u64 s, .slice a n c]) ?_ rfl ?_
  · exact results_cell_row Tryz.results146 _ _ _ _ _ _ _ rfl hr.out Tryz.underlying204 rfl info31
  · exact ⟨rfl, (Below.refl _ _).alloc (Nat.le_refl _) _⟩
/-- One write in a row of its own. -/
theorem wrs_one {w : World} {g : Nat} {e : TypeId} {k : Int} {ka va : Option Addr} {kn kc vn vc c : Nat} {key val : List (BitVec 8)} (hg : w.heap[g]? = some (.cells #[.int .i64 k, .slice ka kn kc, .slice va vn vc] e (0, 0))) (h1 : Bytes w (.slice ka kn kc) key) (h2 : Bytes w (.slice va vn vc) val) :
    Wrs w (.slice (some ⟨g, 0, none⟩) 1 c) [(k, key, val)] := by
  have e1 := h1.len
  have e2 := h2.len
  subst e1 e2
  refine ⟨_, c, rfl, fun j x hx => ?_⟩
  match j, hx with
  | 0, hx =>
    obtain rfl : (k, key, val) = x := by simpa using hx
    exact ⟨g, 0, rfl, cell_of_row w g 0 _ e (0, 0) hg, ka, kc, va, vc, cell_of_row w g 1 _ e (0, 0) hg, cell_of_row w g 2 _ e (0, 0) hg, h1, h2⟩
  | j + 1, hx => simp at hx
theorem checkEntry_any (s : Nat) (hs : s < 18446744073709551616) (k : Int) (ka va : Option Addr) (kn kc vn vc : Nat) (key val : List (BitVec 8)) (w : World) (h1 : Bytes w (.slice ka kn kc) key) (h2 : Bytes w (.slice va vn vc) val) (hm : Smol [(k, key, val)]) :
    Calls Tryz.prog 106 #[.agg #[.slice ka kn kc, .int .u64 s, .int .i64 k, .slice va vn vc]] w fun e w' => e = .returned (.int .i64 (chk s [(k, key, val)])) ∧ Below w.heap.size w w' := by
  have b0 := (Below.refl w.heap.size w).alloc (Nat.le_refl _) (.cells #[.slice ka kn kc, .int .u64 s, .int .i64 k, .slice va vn vc] 35)
  have b1 := b0.alloc b0.size (.cells #[.int .i64 k, .slice ka kn kc, .slice va vn vc] 207)
  have hw := hide (wrs_one (c := 1) (heap_alloc_new (w.alloc (.cells #[.slice ka kn kc, .int .u64 s, .int .i64 k, .slice va vn vc] 35)) (.cells #[.int .i64 k, .slice ka kn kc, .slice va vn vc] 207)) (h1.below b1) (h2.below b1))
  have B1 := hide b1
  have HM := hide hm
  clear b0 b1 h1 h2 hm
  go_enter Tryz.func106, Tryz.ntmps106
  go_wp2_with fail
  refine (batchOf_any s _ 1 1 _).mono ?_
  rintro e w1 ⟨rfl, b2⟩
  have hw1 := hide (hw.out.below b2)
  have B2 := hide (B1.out.trans (b2.mono B1.out.size))
  rw [World.size_alloc] at hw1
  clear b2 hw
  go_wp2_with fail
  refine (check_any s hs _ 1 1 [(k, key, val)] _ hw1.out HM.out).mono ?_
  rintro e w2 ⟨rfl, b3⟩
  have B3 := hide (B2.out.trans (b3.mono B2.out.size))
  clear b3
  go_wp2_with fail
  go_ret
  exact ⟨rfl, B3.out⟩
end Go.Proofs.YtjklbhdhjfifhaaGreat

/-
  Numbers, pieces and writes behind bytes of one's own.
-/
namespace Go.Proofs.YtjklbhdhjfifhaaGreat
open Go.RowKit
set_option maxRecDepth 100000
set_option maxHeartbeats 4000000
theorem short_le : ∀ (k x : Nat), x < 2 ^ (7 * (k + 1)) → (short x).length ≤ k + 1
  | 0, x, h => by rw [short_lt (by omega)]; simp
  | k + 1, x, h => by
    by_cases hx : x < 128
    · rw [short_lt hx]; simp
    · rw [short_ge hx, List.length_cons]
      have h7 : 2 ^ (7 * (k + 1 + 1)) = 128 * 2 ^ (7 * (k + 1)) := by rw [Nat.mul_add 7 (k + 1), Nat.pow_add, Nat.mul_comm]
      have := short_le k (x / 128) (by omega)
      omega
theorem short_len (x : Nat) (h : x < 18446744073709551616) : (short x).length ≤ 10 := short_le 9 x (Nat.lt_of_lt_of_le h (by decide))
theorem make22 (C : Nat) (hC : C ≤ 1000000) (w : World) : ∃ cs : Array Value, (Instr.makeSlice 28 (.int .i64 0) (.int .i64 (C : Int))).run Tryz.prog w = .ok (.slice (some ⟨w.heap.size, 0, none⟩) 0 C) (w.alloc (.cells cs 5)) ∧ cs.size = C := by
  have hr := run_make (P := Tryz.prog) w 28 5 Tryz.t5 (.int .u8 0) Tryz.underlying28 info5 zero5 .i64 .i64 0 C (Int.le_refl _) (by omega) (by rw [bytes5]; omega) (by omega)
  simp only [Int.toNat_zero, Int.toNat_natCast] at hr
  exact ⟨_, hr, by rw [size_madeCells, sz5, Nat.mul_one]⟩
theorem row_made {w : World} {cs : Array Value} {C : Nat} (h : cs.size = C) : RowB (w.alloc (.cells cs 5)) w.heap.size C [] := ⟨cs, heap_alloc_new w _, by omega, fun k hk => by simp [cellsOf] at hk⟩
theorem extend_nil (n : Nat) (hn : n ≤ 10) (w : World) : Calls Tryz.prog 161 #[.slice none 0 0, .int .i64 n] w fun e w' => ∃ g, e = .returned (.slice (some ⟨g, 0, none⟩) 0 n) ∧ w.heap.size ≤ g ∧ RowB w' g n [] ∧ Below w.heap.size w w' := by
  obtain ⟨cs, hmk, hcs⟩ := make22 n (by omega) w
  have hb : Below w.heap.size w (w.alloc (.cells cs 5)) := (Below.refl _ _).alloc (Nat.le_refl _) _
  obtain ⟨g, c, w2, hr, hg, hrow, hb2, hc, hroom, _⟩ := append_bytes2 (w.alloc (.cells cs 5)) w.heap.size (some ⟨w.heap.size, 0, none⟩) 0 n [] rfl (.slice none 0 0) [] 0 rfl (Bytes.empty _) (by simp)
    (.inr ⟨_, rfl, Nat.le_refl _, Nat.zero_le _, row_made hcs⟩) (by omega)
  obtain ⟨e1, rfl⟩ := hroom (by omega)
  obtain rfl : g = w.heap.size := by cases e1; rfl
  rw [Nat.add_zero] at hr
  have HR := hide hr
  have HW := hide hrow
  have HB := hide (hb.trans hb2)
  clear hr hrow hb hb2 hcs hroom e1 hc
  go_enter Tryz.func161, Tryz.ntmps161
  go_wp2_with (at_builtin; refine wpList_append_run rfl (.tmp 9) (.tmp 10) 28 rfl (.slice (some ⟨w.heap.size, 0, none⟩) 0 c) (.slice none 0 0) rfl rfl _ _ (HR.out _) ?_)
  go_ret
  exact ⟨_, rfl, hg, HW.out, HB.out⟩

theorem ofInt_b (x : BitVec 8) : BitVec.ofInt 8 (x.toNat : Int) = x := by
  rw [BitVec.ofInt_natCast, BitVec.ofNat_toNat]
  simp
theorem wrap_b (x : BitVec 8) : IntKind.u8.wrap (x.toNat : Int) = x.toNat := by
  have := x.isLt
  simp [IntKind.wrap, IntKind.bits, IntKind.signed]
  omega
theorem or_b (x y : BitVec 8) : bits .or .u8 (x.toNat : Int) (y.toNat : Int) = ((x ||| y).toNat : Int) := by
  show IntKind.u8.wrap ((BitVec.ofInt 8 (x.toNat : Int) ||| BitVec.ofInt 8 (y.toNat : Int)).toNat : Int) = _
  rw [ofInt_b, ofInt_b, wrap_b]
theorem or128 (b : BitVec 8) : (b ||| 128#8).toNat = b.toNat % 128 + 128 := by
  have h : ∀ i : Fin 256, i.val ||| 128 = i.val % 128 + 128 := by decide
  rw [BitVec.toNat_or]
  exact h ⟨b.toNat, b.isLt⟩
theorem or_more (x : Nat) : bits .or .u8 ((x : Int) % 256) 128 = ((BitVec.ofNat 8 (x % 128 + 128)).toNat : Int) := by
  have e : (x : Int) % 256 = ((BitVec.ofNat 8 x).toNat : Int) := by simp
  rw [e, show (128 : Int) = ((128#8).toNat : Int) from rfl, or_b, or128]
  simp
  omega
/-- One byte behind bytes of one's own, of a row of one that was made for it. -/
theorem bytes_one {w : World} (b : BitVec 8) : Bytes (w.alloc (.cells #[.int .u8 (b.toNat : Int)] 5)) (.slice (some ⟨w.heap.size, 0, none⟩) 1 1) [b] := by
  refine ⟨_, 1, rfl, fun k hk => ⟨w.heap.size, 0, rfl, ?_⟩⟩
  obtain rfl : k = 0 := by simpa using hk
  exact cell_of_row _ _ 0 _ 5 (0, 0) (heap_alloc_new w _)

theorem bytes_nat {w : World} (y : Nat) (hy : y < 256) : Bytes (w.alloc (.cells #[.int .u8 (y : Int)] 5)) (.slice (some ⟨w.heap.size, 0, none⟩) 1 1) [BitVec.ofNat 8 y] := by
  have := bytes_one (w := w) (BitVec.ofNat 8 y)
  rw [show (BitVec.ofNat 8 y).toNat = y by simp; omega] at this
  exact this
/-- A row that grew: only it may have turned, or it lies in new memory. -/
structure Grow (g : Nat) (w : World) (g' : Nat) (w' : World) : Prop where
  own : g' = g ∨ w.heap.size ≤ g'
  turns : Turns (fun k => k = g) w w'
theorem Grow.refl (g : Nat) (w : World) : Grow g w g w := ⟨.inl rfl, Turns.refl _ _⟩
theorem Grow.trans {g g1 g2 : Nat} {w w1 w2 : World} (h : Grow g w g1 w1) (k : Grow g1 w1 g2 w2) : Grow g w g2 w2 := by
  have hs := h.turns.size
  refine ⟨?_, h.turns.andThen k.turns fun j hj e => ?_⟩
  · rcases k.own with rfl | e
    · exact h.own
    · exact .inr (Nat.le_trans hs e)
  · rcases h.own with e1 | e1
    · exact e.trans e1
    · omega
theorem Grow.before {g g' : Nat} {w w1 w' : World} (h : Below w.heap.size w w1) (k : Grow g w1 g' w') : Grow g w g' w' :=
  ⟨k.own.imp id (Nat.le_trans h.size), (Turns.of_below h _).trans k.turns⟩
theorem Grow.below {g g' B : Nat} {w w' : World} (h : Grow g w g' w') (hB : B ≤ w.heap.size) (hg : B ≤ g) : Below B w w' := h.turns.below hB fun k e => by omega
theorem Grow.ge {g g' B : Nat} {w w' : World} (h : Grow g w g' w') (hB : B ≤ w.heap.size) (hg : B ≤ g) : B ≤ g' := by
  rcases h.own with e | e <;> omega
/-- Append of bytes to a row of one's own. -/
theorem append_grow (w : World) (g m c : Nat) (bs : List (BitVec 8)) (hm : m = bs.length) (x : Value) (news : List (BitVec 8)) (n : Nat) (hn : n = news.length) (hx : Bytes w x news) (hmc : m ≤ c) (hrow : RowB w g c bs) (hsm : m + n ≤ 140737488355328) :
    ∃ g' c' w', (∀ ty, (Builtin.append_ #[28, 28] ty #[.slice (some ⟨g, 0, none⟩) m c, x]).run Tryz.prog w = .ok (.slice (some ⟨g', 0, none⟩) (m + n) c') w') ∧ m + n ≤ c' ∧ RowB w' g' c' (bs ++ news) ∧ Grow g w g' w' := by
  have hlt : g < w.heap.size := by
    obtain ⟨cs, h1, _⟩ := hrow
    exact lt_of_heap h1
  obtain ⟨g', c', w', hr, hg', hrow', hb', hc', h1, h2, h3⟩ := append_bytes2 w g (some ⟨g, 0, none⟩) m c bs hm x news n hn hx (Nat.le_of_lt hlt) (.inr ⟨g, rfl, Nat.le_refl _, hmc, hrow⟩) hsm
  refine ⟨g', c', w', hr, hc', hrow', ?_, ⟨hb'.os, hb'.tape, hb'.output, hb'.size, fun k hk hn => h3 k hk (fun e => hn (by cases e; rfl))⟩⟩
  rcases Nat.lt_or_ge c (m + n) with h | h
  · exact .inr (Nat.le_of_eq (h2 h).symm)
  · obtain ⟨e, _⟩ := h1 h
    cases e
    exact .inl rfl
/-- One byte more, of a number. -/
theorem append_nat (w : World) (g m c : Nat) (bs : List (BitVec 8)) (hm : m = bs.length) (y : Nat) (hy : y < 256) (hrow : RowB w g c bs) (hmc : m ≤ c) (hb : m ≤ 900000000) :
    ∃ g' c' w', (∀ ty, (Builtin.append_ #[28, 28] ty #[.slice (some ⟨g, 0, none⟩) m c, .slice (some ⟨w.heap.size, 0, none⟩) 1 1]).run Tryz.prog (w.alloc (.cells #[.int .u8 (y : Int)] 5)) = .ok (.slice (some ⟨g', 0, none⟩) (m + 1) c') w') ∧ m + 1 ≤ c' ∧ RowB w' g' c' (bs ++ [BitVec.ofNat 8 y]) ∧ Grow g w g' w' := by
  have b1 := (Below.refl w.heap.size w).alloc (Nat.le_refl _) (.cells #[.int .u8 (y : Int)] 5)
  obtain ⟨g', c', w', hr, hc', hrow', hg'⟩ := append_grow (w.alloc (.cells #[.int .u8 (y : Int)] 5)) g m c bs hm (.slice (some ⟨w.heap.size, 0, none⟩) 1 1) [BitVec.ofNat 8 y] 1 rfl (bytes_nat y hy) hmc (RowC.below hrow b1) (by omega)
  exact ⟨g', c', w', hr, hc', hrow', hg'.before b1⟩
theorem appendShort_any (g c : Nat) (bs : List (BitVec 8)) (m : Nat) (hm : m = bs.length) (x : Nat) (hx : x < 18446744073709551616) (w : World) (hmc : m ≤ c) (hrow : RowB w g c bs) (hb : m ≤ 800000000) :
    Calls Tryz.prog 188 #[.slice (some ⟨g, 0, none⟩) m c, .int .u64 x] w fun e w' => ∃ g' c', e = .returned (.slice (some ⟨g', 0, none⟩) (m + (short x).length) c') ∧ m + (short x).length ≤ c' ∧ RowB w' g' c' (bs ++ short x) ∧ Grow g w g' w' := by
  have HR := hide hrow
  have HM := hide hm
  clear hrow hm
  go_enter Tryz.func188, Tryz.ntmps188
  go_wp2_with fail
  go_loopw [0, 1] (fun v z wr => ∃ (g1 c1 m1 y : Nat) (bs1 : List (BitVec 8)), v = .slice (some ⟨g1, 0, none⟩) m1 c1 ∧ z = .int .u64 (y : Nat) ∧ y ≤ x ∧ m1 = bs1.length ∧ m1 ≤ c1 ∧ bs1 ++ short y = bs ++ short x ∧ RowB wr g1 c1 bs1 ∧ Grow g w g1 wr) (fun _ z _ => (intOf z).toNat)
  case atStart => exact ⟨g, c, m, x, bs, rfl, rfl, Nat.le_refl _, HM.out, hmc, rfl, HR.out, Grow.refl _ _⟩
  case round =>
    obtain ⟨g1, c1, m1, y, bs1, rfl, rfl, hy, hm1, hmc1, heq, hrow1, hb1⟩ := hrel
    have HE := hide heq
    have HM1 := hide hm1
    have HR1 := hide hrow1
    have HB1 := hide hb1
    have hlen : m1 ≤ 800000010 := by
      have := congrArg List.length heq
      rw [List.length_append, List.length_append, ← HM.out, ← hm1] at this
      have := short_len x hx
      omega
    clear heq hm1 hrow1 hb1
    by_cases h128 : y < 128
    · have h128' : ¬ (128 : Int) ≤ (y : Int) := by omega
      have hmb : m1 + 1 = m + (short x).length := by
        have := congrArg List.length HE.out
        rw [short_lt h128, List.length_append, List.length_append, ← HM.out, ← HM1.out] at this
        simpa using this
      obtain ⟨g2, c2, w2, hr, hc2, hrow2, hb2⟩ := append_nat wr g1 m1 c1 bs1 HM1.out y (by omega) HR1.out hmc1 (by have := hlen; omega)
      have HA := hide hr
      have HR2 := hide hrow2
      have HB2 := hide (HB1.out.trans hb2)
      have HMB := hide hmb
      clear hr hrow2 hb2 hmb
      go_wp2_with (at_builtin; refine wpList_append_run rfl (.tmp 15) (.tmp 18) 28 rfl (.slice (some ⟨g1, 0, none⟩) m1 c1) (.slice (some ⟨wr.heap.size, 0, none⟩) 1 1) rfl rfl _ _ (HA.out _) ?_)
      go_ret
      refine ⟨g2, c2, ?_, ?_, ?_, HB2.out⟩
      · rw [← HMB.out]; rfl
      · rw [← HMB.out]; exact hc2
      · rw [← HE.out, short_lt h128]; exact HR2.out
    · have h128' : (128 : Int) ≤ (y : Int) := by omega
      obtain ⟨q, hq, hq2⟩ : ∃ q : Nat, bits .or .u8 ((y : Int) % 256) 128 = (q : Int) ∧ q = y % 128 + 128 := ⟨y % 128 + 128, by rw [or_more]; simp; omega, rfl⟩
      have HQ := hide hq2
      have hq3 : q < 256 := by omega
      clear hq2
      obtain ⟨g2, c2, w2, hr, hc2, hrow2, hb2⟩ := append_nat wr g1 m1 c1 bs1 HM1.out q hq3 HR1.out hmc1 (by have := hlen; omega)
      have HA := hide hr
      have HR2 := hide hrow2
      have HB2 := hide (HB1.out.trans hb2)
      clear hr hrow2 hb2
      go_wp2_with (at_builtin; refine wpList_append_run rfl (.tmp 7) (.tmp 11) 28 rfl (.slice (some ⟨g1, 0, none⟩) m1 c1) (.slice (some ⟨wr.heap.size, 0, none⟩) 1 1) rfl rfl _ _ (HA.out _) ?_)
      go_roundw
      case rel =>
        refine ⟨g2, c2, m1 + 1, y / 128, bs1 ++ [BitVec.ofNat 8 q], rfl, by go_num, by omega, ?_, hc2, ?_, HR2.out, HB2.out⟩
        · rw [List.length_append, ← HM1.out]; rfl
        · rw [← HE.out, short_ge h128, HQ.out, List.append_assoc]; rfl
      case measure => simp [intOf]; omega
end Go.Proofs.YtjklbhdhjfifhaaGreat

/-
  Numbers, pieces and writes behind bytes of one's own.
-/
namespace Go.Proofs.YtjklbhdhjfifhaaGreat
open Go.RowKit
set_option maxRecDepth 100000
set_option maxHeartbeats 4000000
theorem number_nil (x : Nat) (hx : x < 18446744073709551616) (w : World) : Calls Tryz.prog 159 #[.slice none 0 0, .int .u64 x] w fun e w' => ∃ g c, e = .returned (.slice (some ⟨g, 0, none⟩) (short x).length c) ∧ w.heap.size ≤ g ∧ RowB w' g c (short x) ∧ Below w.heap.size w w' := by
  have hz := szN_le x
  go_enter Tryz.func159, Tryz.ntmps159
  go_wp2_with fail
  refine (size_any x hx _).mono ?_
  rintro e w1 ⟨rfl, rfl⟩
  obtain ⟨k, hk⟩ : ∃ k : Nat, szN x = (k : Int) := ⟨(szN x).toNat, by omega⟩
  rw [hk] at hz ⊢
  clear hk
  go_wp2_with fail
  refine (extend_nil k (by omega) _).mono ?_
  rintro e w2 ⟨g, rfl, hg, hrow, hb⟩
  go_wp2_with fail
  refine (appendShort_any g k [] 0 rfl x hx _ (Nat.zero_le _) hrow (by omega)).mono ?_
  rintro e w3 ⟨g2, c2, rfl, hc2, hrow2, hb2⟩
  rw [Nat.zero_add]
  have HR := hide hrow2
  have HG := hide (hb2.ge hb.size hg)
  have HB := hide (hb.trans (hb2.below hb.size hg))
  clear hrow2 hb2 hb hrow hc2
  go_wp2_with fail
  go_ret
  exact ⟨g2, c2, rfl, HG.out, HR.out, HB.out⟩
theorem pieceB_len (p : List (BitVec 8)) : (pieceB p).length = (short p.length).length + p.length := by simp [pieceB]
end Go.Proofs.YtjklbhdhjfifhaaGreat

/-
  Parts of a table: numbers, pieces, numbers in order, parts.
-/
namespace Go.Proofs.YtjklbhdhjfifhaaGreat
open Go.RowKit
set_option maxRecDepth 100000
set_option maxHeartbeats 4000000
/-- Bytes in a row of one's own, from block B on. -/
def Fresh (B : Nat) (w : World) (v : Value) (bs : List (BitVec 8)) : Prop :=
  (bs = [] ∧ v = .slice none 0 0) ∨ ∃ g n c : Nat, v = .slice (some ⟨g, 0, none⟩) n c ∧ n = bs.length ∧ n ≤ c ∧ B ≤ g ∧ RowB w g c bs
theorem Fresh.bytes {B : Nat} {w : World} {v : Value} {bs : List (BitVec 8)} (h : Fresh B w v bs) : Bytes w v bs := by
  rcases h with ⟨rfl, rfl⟩ | ⟨g, n, c, rfl, hn, _, _, hr⟩
  · exact Bytes.empty w
  · exact hr.bytes hn
theorem Fresh.len {B : Nat} {w : World} {v : Value} {bs : List (BitVec 8)} (h : Fresh B w v bs) : ∃ a c, v = .slice a bs.length c := by
  rcases h with ⟨rfl, rfl⟩ | ⟨g, n, c, rfl, rfl, _⟩
  · exact ⟨none, 0, rfl⟩
  · exact ⟨_, _, rfl⟩
theorem Fresh.below {B : Nat} {w w' : World} {v : Value} {bs : List (BitVec 8)} (h : Fresh B w v bs) (hb : Below w.heap.size w w') : Fresh B w' v bs := by
  rcases h with h | ⟨g, n, c, h1, h2, h3, h4, h5⟩
  · exact .inl h
  · exact .inr ⟨g, n, c, h1, h2, h3, h4, RowC.below h5 hb⟩
theorem Fresh.le {B B' : Nat} {w : World} {v : Value} {bs : List (BitVec 8)} (h : Fresh B w v bs) (hB : B' ≤ B) : Fresh B' w v bs := by
  rcases h with h | ⟨g, n, c, h1, h2, h3, h4, h5⟩
  · exact .inl h
  · exact .inr ⟨g, n, c, h1, h2, h3, Nat.le_trans hB h4, h5⟩
/-- Append to such a row. -/
theorem append_fresh (w : World) (B : Nat) (v : Value) (bs : List (BitVec 8)) (h : Fresh B w v bs) (hB : B ≤ w.heap.size) (x : Value) (news : List (BitVec 8)) (hx : Bytes w x news) (hpos : 0 < news.length) (hsm : bs.length + news.length ≤ 140737488355328) :
    ∃ v' w', (∀ ty, (Builtin.append_ #[28, 28] ty #[v, x]).run Tryz.prog w = .ok v' w') ∧ Fresh B w' v' (bs ++ news) ∧ Below B w w' ∧ Turns (fun k => B ≤ k) w w' := by
  rcases h with ⟨rfl, rfl⟩ | ⟨g, n, c, rfl, hn, hnc, hg, hr⟩
  · obtain ⟨g, c, w', hr, hg, hrow, hb, hc, _⟩ := append_bytes2 w B none 0 0 [] rfl x news news.length rfl hx hB (.inl ⟨rfl, rfl, rfl, hpos⟩) (by simpa using hsm)
    refine ⟨_, w', hr, .inr ⟨g, _, c, rfl, by simp, hc, hg, hrow⟩, hb, ⟨hb.os, hb.tape, hb.output, hb.size, fun k hk hn => hb.block k (by omega)⟩⟩
  · obtain ⟨g', c', w', hr', hc', hrow, hgr⟩ := append_grow w g n c bs hn x news news.length rfl hx hnc hr (by omega)
    have hb := hgr.below hB hg
    exact ⟨_, w', hr', .inr ⟨g', _, c', rfl, by rw [List.length_append, hn], hc', hgr.ge hB hg, hrow⟩, hb, ⟨hb.os, hb.tape, hb.output, hb.size, fun k hk hn => hb.block k (by omega)⟩⟩
theorem extend_big (n : Nat) (hn : n ≤ 1000000) (w : World) : Calls Tryz.prog 161 #[.slice none 0 0, .int .i64 n] w fun e w' => ∃ g, e = .returned (.slice (some ⟨g, 0, none⟩) 0 n) ∧ w.heap.size ≤ g ∧ RowB w' g n [] ∧ Below w.heap.size w w' := by
  obtain ⟨cs, hmk, hcs⟩ := make22 n (by omega) w
  have hb : Below w.heap.size w (w.alloc (.cells cs 5)) := (Below.refl _ _).alloc (Nat.le_refl _) _
  obtain ⟨g, c, w2, hr, hg, hrow, hb2, hc, hroom, _⟩ := append_bytes2 (w.alloc (.cells cs 5)) w.heap.size (some ⟨w.heap.size, 0, none⟩) 0 n [] rfl (.slice none 0 0) [] 0 rfl (Bytes.empty _) (by simp)
    (.inr ⟨_, rfl, Nat.le_refl _, Nat.zero_le _, row_made hcs⟩) (by omega)
  obtain ⟨e1, rfl⟩ := hroom (by omega)
  obtain rfl : g = w.heap.size := by cases e1; rfl
  rw [Nat.add_zero] at hr
  have HR := hide hr
  have HW := hide hrow
  have HB := hide (hb.trans hb2)
  clear hr hrow hb hb2 hcs hroom e1 hc
  go_enter Tryz.func161, Tryz.ntmps161
  go_wp2_with (at_builtin; refine wpList_append_run rfl (.tmp 9) (.tmp 10) 28 rfl (.slice (some ⟨w.heap.size, 0, none⟩) 0 c) (.slice none 0 0) rfl rfl _ _ (HR.out _) ?_)
  go_ret
  exact ⟨_, rfl, hg, HW.out, HB.out⟩
theorem piece_nil (a : Option Addr) (n c : Nat) (p : List (BitVec 8)) (w : World) (h : Bytes w (.slice a n c) p) (hn : n ≤ 900000) :
    Calls Tryz.prog 160 #[.slice none 0 0, .slice a n c] w fun e w' => ∃ v, e = .returned (.tuple #[v, .int .i64 0]) ∧ Fresh w.heap.size w' v (pieceB p) ∧ Below w.heap.size w w' := by
  have hl := h.len
  have HL := hide hl
  have HP := hide h
  clear hl h
  have hz := szN_le n
  have h1 : ¬ (1048576 : Int) < (n : Int) := by omega
  go_enter Tryz.func160, Tryz.ntmps160
  go_wp2_with fail
  refine (size_any n (by omega) _).mono ?_
  rintro e w1 ⟨rfl, rfl⟩
  obtain ⟨k, hk⟩ : ∃ k : Nat, szN n = (k : Int) := ⟨(szN n).toNat, by omega⟩
  rw [hk] at hz ⊢
  clear hk
  go_wp2_with fail
  refine (extend_big (k + n) (by omega) _).mono ?_
  rintro e w2 ⟨g, rfl, hg, hrow, hb⟩
  go_wp2_with fail
  refine (appendShort_any g (k + n) [] 0 rfl n (by omega) _ (Nat.zero_le _) hrow (by omega)).mono ?_
  rintro e w3 ⟨g2, c2, rfl, hc2, hrow2, hb2⟩
  rw [List.nil_append] at hrow2
  rw [Nat.zero_add] at hc2 ⊢
  have hge := hb2.ge hb.size hg
  have hbw := hb.trans (hb2.below hb.size hg)
  have HP3 := hide (HP.out.below hbw)
  obtain ⟨g4, c4, w4, hr4, hc4, hrow4, hb4⟩ := append_grow w3 g2 (short n).length c2 (short n) rfl (.slice a n c) p n HL.out HP3.out hc2 hrow2 (by have := short_len n (by omega); omega)
  have hs3 := hbw.size
  have FR := hide (show Fresh w1.heap.size w4 (.slice (some ⟨g4, 0, none⟩) ((short n).length + n) c4) (pieceB p) from .inr ⟨g4, _, c4, rfl, by rw [pieceB_len, ← HL.out], hc4, hb4.ge hs3 hge, by rw [show pieceB p = short n ++ p by rw [HL.out]; rfl]; exact hrow4⟩)
  have HB4 := hide (hbw.trans (hb4.below hs3 hge))
  have hq := hr4 28
  clear hr4 hrow4 hb4 hrow2 hb2 hb hrow hge hbw HP HP3
  go_wp2_with (at_builtin; refine wpList_append_run rfl _ _ 28 rfl _ _ rfl rfl _ _ hq ?_)
  go_ret2
  exact ⟨_, rfl, FR.out, HB4.out⟩
/-- How long a slice is. -/
def lenV : Value → Nat
  | .slice _ n _ => n
  | _ => 0
/-- A number in order. -/
def ordB (x : Nat) : List (BitVec 8) := [BitVec.ofNat 8 (x / 2 ^ 56), BitVec.ofNat 8 (x / 2 ^ 48), BitVec.ofNat 8 (x / 2 ^ 40), BitVec.ofNat 8 (x / 2 ^ 32), BitVec.ofNat 8 (x / 2 ^ 24), BitVec.ofNat 8 (x / 2 ^ 16), BitVec.ofNat 8 (x / 2 ^ 8), BitVec.ofNat 8 x]
theorem ofNat_mod (y : Nat) : BitVec.ofNat 8 (y % 256) = BitVec.ofNat 8 y := by
  apply BitVec.eq_of_toNat_eq
  simp
theorem ord_take (x k : Nat) (hk : k < 8) : (ordB x).take k ++ [BitVec.ofNat 8 (x / 2 ^ (56 - 8 * k) % 256)] = (ordB x).take (k + 1) := by
  rw [ofNat_mod]
  match k, hk with
  | 0, _ => rfl
  | 1, _ => rfl
  | 2, _ => rfl
  | 3, _ => rfl
  | 4, _ => rfl
  | 5, _ => rfl
  | 6, _ => rfl
  | 7, _ => simp [ordB]
theorem ordered_nil (x : Nat) (w : World) :
    Calls Tryz.prog 115 #[.slice none 0 0, .int .u64 x] w fun e w' => ∃ v, e = .returned v ∧ Fresh w.heap.size w' v (ordB x) ∧ Below w.heap.size w w' := by
  go_enter Tryz.func115, Tryz.ntmps115
  go_wp2_with fail
  refine (extend_big 8 (by omega) _).mono ?_
  rintro e w2 ⟨g, rfl, hg, hrow, hb⟩
  have HR := hide hrow
  have HB := hide hb
  clear hrow hb
  go_wp2_with fail
  go_loopw [5, 6] (fun v iv wr => ∃ (k g1 c1 : Nat), v = .slice (some ⟨g1, 0, none⟩) k c1 ∧ iv = .int .i64 (56 - 8 * (k : Int)) ∧ k ≤ 8 ∧ k ≤ c1 ∧ RowB wr g1 c1 ((ordB x).take k) ∧ Grow g w2 g1 wr) (fun v _ _ => 8 - lenV v)
  case atStart => exact ⟨0, g, 8, rfl, rfl, by omega, by omega, HR.out, Grow.refl _ _⟩
  case round =>
    obtain ⟨k, g1, c1, rfl, rfl, hk, hkc, hrow1, hgr⟩ := hrel
    have HR1 := hide hrow1
    have HG1 := hide hgr
    clear hrow1 hgr
    by_cases hk8 : k < 8
    · have i1 : (0 : Int) ≤ 56 - 8 * (k : Int) := by omega
      obtain ⟨g2, c2, w3, hr, hc2, hrow2, hb2⟩ := append_nat wr g1 k c1 ((ordB x).take k) (by rw [List.length_take]; have : (ordB x).length = 8 := rfl; omega) (x / 2 ^ (56 - 8 * k) % 256) (Nat.mod_lt _ (by decide)) HR1.out hkc (by omega)
      rw [ord_take x k hk8] at hrow2
      have hcast : ((x / 2 ^ (56 - 8 * k) % 256 : Nat) : Int) = (x : Int) / 2 ^ (56 - 8 * k) % 256 := by simp only [Int.natCast_emod, Int.natCast_ediv, Int.natCast_pow, Int.cast_ofNat_Int]
      rw [hcast] at hr
      have HA := hide hr
      have HR2 := hide hrow2
      have HB2 := hide (HG1.out.trans hb2)
      clear hr hrow2 hb2 HR1 HG1 hcast
      go_wp2_with (at_builtin; refine wpList_append_run rfl _ _ 28 rfl _ _ rfl rfl _ _ (HA.out _) ?_)
      go_roundw
      case rel => exact ⟨k + 1, g2, c2, rfl, by rw [show (56 : Int) - 8 * ((k + 1 : Nat) : Int) = 56 - 8 * (k : Int) - 8 by omega], by omega, hc2, HR2.out, HB2.out⟩
      case measure => simp [lenV]; omega
    · have i1 : ¬ (0 : Int) ≤ 56 - 8 * (k : Int) := by omega
      have he : k = 8 := by omega
      subst he
      have FR := hide (show Fresh w.heap.size wr (.slice (some ⟨g1, 0, none⟩) 8 c1) (ordB x) from .inr ⟨g1, 8, c1, rfl, rfl, hkc, HG1.out.ge HB.out.size hg, HR1.out⟩)
      have HB2 := hide (HB.out.trans (HG1.out.below HB.out.size hg))
      clear HR1 HG1
      go_wp2_with fail
      go_ret
      exact ⟨_, rfl, FR.out, HB2.out⟩
end Go.Proofs.YtjklbhdhjfifhaaGreat

/-
  The leaves of crc's calls: what one step, a turning and the search of the lowest bit answer, said of 32-bit words.
-/
namespace Go.Proofs.YtjklbhdhjfifhaaGreat
open Go.RowKit

theorem ofInt_w (x : BitVec 32) : BitVec.ofInt 32 (x.toNat : Int) = x := by
  apply BitVec.eq_of_toNat_eq
  rw [ofInt_u32 x.toNat x.isLt]
theorem wrap_w (x : BitVec 32) : IntKind.u32.wrap (x.toNat : Int) = x.toNat := by
  have := x.isLt
  simp [IntKind.wrap, IntKind.bits, IntKind.signed]
  omega
theorem xor_w (x y : BitVec 32) : bits .xor .u32 (x.toNat : Int) (y.toNat : Int) = ((x ^^^ y).toNat : Int) := by
  show IntKind.u32.wrap ((BitVec.ofInt 32 (x.toNat : Int) ^^^ BitVec.ofInt 32 (y.toNat : Int)).toNat : Int) = _
  rw [ofInt_w, ofInt_w, wrap_w]
theorem and_w (x y : BitVec 32) : bits .and .u32 (x.toNat : Int) (y.toNat : Int) = ((x &&& y).toNat : Int) := by
  show IntKind.u32.wrap ((BitVec.ofInt 32 (x.toNat : Int) &&& BitVec.ofInt 32 (y.toNat : Int)).toNat : Int) = _
  rw [ofInt_w, ofInt_w, wrap_w]
theorem or_w (x y : BitVec 32) : bits .or .u32 (x.toNat : Int) (y.toNat : Int) = ((x ||| y).toNat : Int) := by
  show IntKind.u32.wrap ((BitVec.ofInt 32 (x.toNat : Int) ||| BitVec.ofInt 32 (y.toNat : Int)).toNat : Int) = _
  rw [ofInt_w, ofInt_w, wrap_w]
theorem xor_b (x y : BitVec 8) : bits .xor .u8 (x.toNat : Int) (y.toNat : Int) = ((x ^^^ y).toNat : Int) := by
  show IntKind.u8.wrap ((BitVec.ofInt 8 (x.toNat : Int) ^^^ BitVec.ofInt 8 (y.toNat : Int)).toNat : Int) = _
  rw [ofInt_b, ofInt_b, wrap_b]

theorem shr_w (x : BitVec 32) (n : Nat) : (x.toNat : Int) / ((2 ^ n : Nat) : Int) = ((x >>> n).toNat : Int) := by
  rw [BitVec.toNat_ushiftRight, Nat.shiftRight_eq_div_pow]
  rfl
theorem shr1_w (x : BitVec 32) : (x.toNat : Int) / (2 : Int) = ((x >>> 1).toNat : Int) := shr_w x 1
theorem shr8_w (x : BitVec 32) : (x.toNat : Int) / (256 : Int) = ((x >>> 8).toNat : Int) := shr_w x 8
theorem shr15_w (x : BitVec 32) : (x.toNat : Int) / (32768 : Int) = ((x >>> 15).toNat : Int) := shr_w x 15
theorem shl_w (x : BitVec 32) (n : Nat) : (x.toNat : Int) * ((2 ^ n : Nat) : Int) % (4294967296 : Int) = ((x <<< n).toNat : Int) := by
  rw [BitVec.toNat_shiftLeft, Nat.shiftLeft_eq]
  rfl
theorem shl17_w (x : BitVec 32) : (x.toNat : Int) * (131072 : Int) % (4294967296 : Int) = ((x <<< 17).toNat : Int) := shl_w x 17
theorem add_w (x y : BitVec 32) : ((x.toNat : Int) + (y.toNat : Int)) % (4294967296 : Int) = ((x + y).toNat : Int) := by
  rw [BitVec.toNat_add]
  rfl
theorem ret_w {x y : BitVec 32} (h : x = y) : Ending.returned (.int .u32 (x.toNat : Int)) = .returned (.int .u32 (y.toNat : Int)) := by rw [h]
theorem bit0_w (x : BitVec 32) : x[0] = (x.toNat % 2 == 1) := by
  rw [BitVec.getElem_eq_testBit_toNat, Nat.testBit_zero]
  rfl
theorem and1_w (x : BitVec 32) : bits .and .u32 (x.toNat : Int) 1 = ((x.toNat % 2 : Nat) : Int) := by
  have e := and_w x 1#32
  rw [show ((1#32).toNat : Int) = 1 from rfl] at e
  rw [e, BitVec.toNat_and]
  show ((x.toNat &&& 1 : Nat) : Int) = _
  rw [Nat.and_one_is_mod]

set_option maxHeartbeats 400000 in
theorem step_any (x : BitVec 32) (w : World) :
    Calls Tryz.prog 204 #[.int .u32 x.toNat] w fun e w' => e = .returned (.int .u32 (Crc32.step x).toNat) ∧ w' = w := by
  have h0 := bit0_w x
  have h1 := and1_w x
  have hs := shr1_w x
  have hx := xor_w (x >>> 1) 2197175160#32
  rw [show ((2197175160#32).toNat : Int) = 2197175160 from rfl] at hx
  have H0 : Hid (x[0] = (x.toNat % 2 == 1)) := h0
  have Hs : Hid ((x.toNat : Int) / (2 : Int) = ((x >>> 1).toNat : Int)) := hs
  have Hx : Hid (bits .xor .u32 ((x >>> 1).toNat : Int) 2197175160 = ((x >>> 1 ^^^ 2197175160#32).toNat : Int)) := hx
  have H1 : Hid (bits .and .u32 (x.toNat : Int) 1 = ((x.toNat % 2 : Nat) : Int)) := h1
  clear h0 h1 hs hx
  by_cases hb : x.toNat % 2 = 1
  · have ht : (bits .and .u32 (x.toNat : Int) 1 == 0) = false := by rw [H1.out, hb]; rfl
    have hst : Hid (Crc32.step x = x >>> 1 ^^^ 2197175160#32) := by unfold Hid Crc32.step; rw [H0.out, hb]; rfl
    clear hb
    go_enter Tryz.func204, Tryz.ntmps204
    go_wp2
    go_ret
    exact ⟨ret_int (by rw [hst.out, ← Hx.out, ← Hs.out]), rfl⟩
  · have ht : (bits .and .u32 (x.toNat : Int) 1 == 0) = true := by rw [H1.out, show x.toNat % 2 = 0 by omega]; rfl
    have hst : Hid (Crc32.step x = x >>> 1) := by unfold Hid Crc32.step; rw [H0.out, show x.toNat % 2 = 0 by omega]; rfl
    clear hb
    go_enter Tryz.func204, Tryz.ntmps204
    go_wp2
    go_ret
    exact ⟨ret_int (by rw [hst.out, ← Hs.out]), rfl⟩

theorem and17 : bits .and .u64 (IntKind.u64.wrap (-15)) 31 = 17 := by decide +kernel

set_option maxHeartbeats 400000 in
theorem rot17_any (x : BitVec 32) (w : World) :
    Calls Tryz.prog 199 #[.int .u32 x.toNat, .int .i64 (-15)] w fun e w' => e = .returned (.int .u32 (x <<< 17 ||| x >>> 15).toNat) ∧ w' = w := by
  have h := and17
  have H : Hid (bits .or .u32 ((x.toNat : Int) * (131072 : Int) % (4294967296 : Int)) ((x.toNat : Int) / (32768 : Int)) = ((x <<< 17 ||| x >>> 15).toNat : Int)) := by unfold Hid; rw [shl17_w, shr15_w, or_w]
  go_enter Tryz.func199, Tryz.ntmps199
  go_wp2
  go_ret
  exact ⟨ret_int H.out, rfl⟩

def mask (x : BitVec 32) : BitVec 32 := (x >>> 15 ||| x <<< 17) + 2726488792#32
def unmask (x : BitVec 32) : BitVec 32 := (x - 2726488792#32) <<< 15 ||| (x - 2726488792#32) >>> 17
theorem unmask_mask (x : BitVec 32) : unmask (mask x) = x := by
  unfold unmask mask
  rw [BitVec.add_sub_cancel]
  exact Crc32.unmask_mask x


set_option maxHeartbeats 400000 in
theorem mask_any (x : BitVec 32) (w : World) :
    Calls Tryz.prog 186 #[.int .u32 x.toNat] w fun e w' => e = .returned (.int .u32 (mask x).toNat) ∧ w' = w := by
  have H : Hid (((x <<< 17 ||| x >>> 15).toNat + (2726488792 : Int)) % (4294967296 : Int) = ((mask x).toNat : Int)) := by
    unfold Hid mask
    rw [BitVec.or_comm]
    exact add_w _ 2726488792#32
  generalize hm : mask x = m at *
  clear hm
  go_enter Tryz.func186, Tryz.ntmps186
  go_wp2_with fail
  refine (rot17_any _ _).mono ?_
  rintro e w' ⟨rfl, rfl⟩
  generalize x <<< 17 ||| x >>> 15 = r at *
  go_wp2
  go_ret
  exact ⟨ret_int H.out, rfl⟩
/-- What Pick picks. -/
def pick (n m : Int) : Int := if n.tmod m < 0 then n.tmod m + m else n.tmod m
end Go.Proofs.YtjklbhdhjfifhaaGreat

/-
  Update and Sum, of the code and of the document's answer: both tell the register that the plain mathematics tells.
-/
namespace Go.Proofs.YtjklbhdhjfifhaaGreat
open Go.RowKit

theorem not_w (x : BitVec 32) : bits .xor .u32 IntKind.u32.max (x.toNat : Int) = ((~~~x).toNat : Int) := by
  have e := xor_w 4294967295#32 x
  rw [BitVec.xor_comm, ← Crc32.not_eq] at e
  exact e
theorem low8_w (x : BitVec 32) : (x.toNat : Int) % (256 : Int) = ((x.setWidth 8).toNat : Int) := by
  rw [BitVec.toNat_setWidth]
  rfl
def zeros256 : Array Value := Array.replicate 256 (.int .u32 0)
theorem zero42 (w : World) : Sem.run Tryz.prog (zeroValue 241) w = .ok (.agg zeros256) w := by kernel_rfl

/-- The table, made as far as the places that are multiples of m. -/
def TabAt (w : World) (b : Nat) (ok : Nat → Bool) : Prop :=
  ∃ cs : Array Value, w.heap[b]? = some (.cells cs 241 (0, 0)) ∧ cs.size = 256 ∧ ∀ j, j < 256 → ok j = true → cs[j]? = some (.int .u32 ((Crc32.tab j).toNat : Int))

theorem TabAt.below {w w' : World} {b : Nat} {ok : Nat → Bool} (h : TabAt w b ok) (hb : Below w.heap.size w w') : TabAt w' b ok := by
  obtain ⟨cs, h1, h2, h3⟩ := h
  refine ⟨cs, ?_, h2, h3⟩
  rw [hb.block b, h1]
  rcases Nat.lt_or_ge b w.heap.size with h | h
  · exact h
  · rw [Array.getElem?_eq_none h] at h1; cases h1
theorem TabAt.cell {w : World} {b : Nat} {ok : Nat → Bool} (h : TabAt w b ok) (j : Nat) (hj : j < 256) (ho : ok j = true) : w.cell? ⟨b, j, none⟩ = some (.int .u32 ((Crc32.tab j).toNat : Int)) := by
  obtain ⟨cs, h1, h2, h3⟩ := h
  rw [cell_of_row w b j cs 241 (0, 0) h1, h3 j hj ho]
theorem TabAt.frozen {w : World} {b : Nat} {ok : Nat → Bool} (h : TabAt w b ok) (j : Nat) : w.frozen? ⟨b, j, none⟩ = false := by
  obtain ⟨cs, h1, h2, h3⟩ := h
  exact frozen_of_row w b j cs 241 h1
theorem TabAt.there {w : World} {b : Nat} {ok : Nat → Bool} (h : TabAt w b ok) (j : Nat) (hj : j < 256) : ∃ v, w.cell? ⟨b, j, none⟩ = some v := by
  obtain ⟨cs, h1, h2, h3⟩ := h
  rw [cell_of_row w b j cs 241 (0, 0) h1]
  exact ⟨cs[j], by simp [h2, hj]⟩


theorem half_nums (r : Nat) (hr : r < 8) : 128 / 2 ^ r = 2 ^ (7 - r) ∧ 1 ≤ 2 ^ (7 - r) ∧ 2 ^ (7 - r) ≤ 128 ∧ 2 ^ (8 - r) = 2 * 2 ^ (7 - r) ∧ 2 ^ (7 - r) / 2 = 128 / 2 ^ (r + 1) ∧ 8 - (r + 1) = 7 - r := by
  have : ∀ r : Fin 8, 128 / 2 ^ r.val = 2 ^ (7 - r.val) ∧ 1 ≤ 2 ^ (7 - r.val) ∧ 2 ^ (7 - r.val) ≤ 128 ∧ 2 ^ (8 - r.val) = 2 * 2 ^ (7 - r.val) ∧ 2 ^ (7 - r.val) / 2 = 128 / 2 ^ (r.val + 1) ∧ 8 - (r.val + 1) = 7 - r.val := by decide +kernel
  exact this ⟨r, hr⟩

/-- A round of the inner loop stays within the table. -/
theorem inner_nums (r i : Nat) (hr : r < 8) (hi : i < 256) (hm : i % 2 ^ (8 - r) = 0) : i + 2 ^ (7 - r) < 256 ∧ i + 2 * 2 ^ (7 - r) ≤ 256 ∧ (i + 2 * 2 ^ (7 - r)) % 2 ^ (8 - r) = 0 := by
  have : ∀ r : Fin 8, ∀ i : Fin 256, i.val % 2 ^ (8 - r.val) = 0 → i.val + 2 ^ (7 - r.val) < 256 ∧ i.val + 2 * 2 ^ (7 - r.val) ≤ 256 ∧ (i.val + 2 * 2 ^ (7 - r.val)) % 2 ^ (8 - r.val) = 0 := by decide +kernel
  exact this ⟨r, hr⟩ ⟨i, hi⟩ hm

theorem inner_last (r i j : Nat) (hr : r < 8) (hm : i % 2 ^ (8 - r) = 0) (hj : j % 2 ^ (7 - r) = 0) (hlt : j < i + 2 * 2 ^ (7 - r)) (hne : j ≠ i + 2 ^ (7 - r)) (hj2 : j % 2 ^ (8 - r) ≠ 0) : j < i := by
  have : r = 0 ∨ r = 1 ∨ r = 2 ∨ r = 3 ∨ r = 4 ∨ r = 5 ∨ r = 6 ∨ r = 7 := by omega
  rcases this with rfl | rfl | rfl | rfl | rfl | rfl | rfl | rfl <;> simp at hm hj hlt hne hj2 ⊢ <;> omega

/-- What is made when the inner loop has come to i. -/
def okIn (r i : Nat) (j : Nat) : Bool := j % 2 ^ (8 - r) == 0 || (j % 2 ^ (7 - r) == 0 && decide (j < i))

theorem TabAt.mono {w : World} {b : Nat} {ok ok' : Nat → Bool} (h : TabAt w b ok) (hk : ∀ j, j < 256 → ok' j = true → ok j = true) : TabAt w b ok' := by
  obtain ⟨cs, h1, h2, h3⟩ := h
  exact ⟨cs, h1, h2, fun j hj ho => h3 j hj (hk j hj ho)⟩

theorem TabAt.store {w : World} {b r i : Nat} (h : TabAt w b (okIn r i)) (hr : r < 8) (hi : i < 256) (hm : i % 2 ^ (8 - r) = 0) :
    TabAt (w.setCell ⟨b, i + 2 ^ (7 - r), none⟩ (.int .u32 ((Crc32.tab i ^^^ Crc32.tab (2 ^ (7 - r))).toNat : Int))) b (okIn r (i + 2 * 2 ^ (7 - r))) := by
  obtain ⟨cs, h1, h2, h3⟩ := h
  have hn := inner_nums r i hr hi hm
  refine ⟨_, heap_setCell_same w b _ cs 241 _ h1, by simpa using h2, fun j hj ho => ?_⟩
  rw [Array.getElem?_setIfInBounds]
  by_cases e : i + 2 ^ (7 - r) = j
  · subst e
    rw [if_pos rfl, if_pos (by omega), Crc32.tab_add ⟨r, hr⟩ ⟨i, hi⟩ hm]
  · rw [if_neg e]
    apply h3 j hj
    unfold okIn at ho ⊢
    by_cases h8 : j % 2 ^ (8 - r) = 0
    · simp [h8]
    · have h7 : j % 2 ^ (7 - r) = 0 ∧ j < i + 2 * 2 ^ (7 - r) := by simpa [h8] using ho
      have := inner_last r i j hr hm h7.1 h7.2 (fun x => e x.symm) h8
      simp [h7.1, this]

set_option maxRecDepth 100000 in
set_option maxHeartbeats 1000000 in
theorem update_any (s : BitVec 32) (v : Value) (bs : List (BitVec 8)) (w : World) (h : Bytes w v bs) (hl : bs.length ≤ maxLen) :
    Calls Tryz.prog 200 #[.int .u32 s.toNat, v] w fun e w' => e = .returned (.int .u32 (Crc32.update s bs).toNat) ∧ Below w.heap.size w w' := by
  unfold maxLen at hl
  obtain ⟨a, c, rfl, hc⟩ := h
  have HC := hide hc
  clear hc
  have hz := zero42
  generalize hn : bs.length = n at *
  have HN := hide hn
  clear hn
  go_enter Tryz.func200, Tryz.ntmps200
  go_wp2
  go_loopw [6, 7] (fun bit half wr => ∃ r : Nat, r ≤ 8 ∧ bit = .int .u32 (Crc32.it Crc32.step r 1#32).toNat ∧ half = .int .i64 ((128 / 2 ^ r : Nat) : Int) ∧ Below w.heap.size w wr ∧ TabAt wr w.heap.size (fun j => j % 2 ^ (8 - r) == 0)) (fun _ half _ => (intOf half).toNat)
  case atStart =>
    refine ⟨0, by omega, rfl, rfl, (Below.refl _ _).alloc (Nat.le_refl _) _, zeros256, heap_alloc_new _ _, by simp [zeros256], ?_⟩
    intro j hj ho
    have : j = 0 := by simp at ho; omega
    subst this
    rw [show Crc32.tab 0 = 0#32 by decide]
    simp [zeros256]
  case round =>
    clear hz
    obtain ⟨r, hr, rfl, rfl, hb, ht⟩ := hrel
    have HB := hide hb
    have HT := hide ht
    clear hb ht
    by_cases hlt : r < 8
    · obtain ⟨e1, e2, e3, e4, e5, e6⟩ := half_nums r hlt
      have hbit := Crc32.tab_half ⟨r, hlt⟩
      rw [e1]
      generalize hh : 2 ^ (7 - r) = h at *
      have HH := hide hh
      have HE := hide (And.intro e1 (And.intro e4 (And.intro e5 e6)))
      have HBit := hide hbit
      clear hh e1 e4 e5 e6 hbit
      go_wp2_with fail
      refine (step_any _ _).mono ?_
      rintro e w' ⟨rfl, hw⟩
      subst hw
      rw [show Crc32.step (Crc32.it Crc32.step r 1#32) = Crc32.tab h from HBit.out]
      go_wp2
      go_loopw [8] (fun i w2 => ∃ k : Nat, k ≤ 256 ∧ i = .int .i64 k ∧ k % 2 ^ (8 - r) = 0 ∧ Below w.heap.size w w2 ∧ TabAt w2 w.heap.size (okIn r k)) (fun i _ => (256 - intOf i).toNat)
      case atStart =>
        exact ⟨0, by omega, rfl, by simp, HB.out, HT.out.mono (fun j _ ho => by unfold okIn at ho; simpa using ho)⟩
      case round =>
        obtain ⟨k, hk, rfl, hm, hb2, ht2⟩ := hrel
        have HM := hide hm
        have HB2 := hide hb2
        have HT2 := hide ht2
        clear hm hb2 ht2
        by_cases hkl : k < 256
        · obtain ⟨n1, n2, n3⟩ := inner_nums r k hlt hkl HM.out
          rw [HH.out] at n1 n2 n3
          have N3 := hide n3
          clear n3
          have c1 := HT2.out.cell k hkl (by unfold okIn; simp [HM.out])
          have c2 := HT2.out.frozen (k + h)
          obtain ⟨v3, c3⟩ := HT2.out.there (k + h) n1
          have hx := xor_w (Crc32.tab k) (Crc32.tab h)
          go_wp2
          go_roundw
          case rel =>
            refine ⟨k + 2 * h, by omega, by go_num, N3.out, HB2.out.setCell (Nat.le_refl _) _, ?_⟩
            have := HT2.out.store hlt hkl HM.out
            rw [HH.out] at this
            exact this
          case measure => simp [intOf]; omega
        · obtain rfl : k = 256 := by omega
          go_wp2
          go_roundw
          case rel =>
            refine ⟨r + 1, by omega, ?_, ?_, HB2.out, HT2.out.mono (fun j hj ho => ?_)⟩
            · rw [Crc32.it_succ, HBit.out]
            · rw [← HE.out.2.2.1]; go_num
            · rw [HE.out.2.2.2] at ho
              unfold okIn
              simp at ho
              simp [ho, hj]
          case measure => simp [intOf]; omega
    · obtain rfl : r = 8 := by omega
      rw [show 128 / 2 ^ 8 = 0 from rfl]
      go_wp2
      rw [not_w]
      generalize hs0 : ~~~s = s0
      have HS := hide hs0
      clear hs0
      go_loop [9, 37] (fun reg i => ∃ k : Nat, k ≤ n ∧ i = .int .i64 k ∧ reg = .int .u32 (Crc32.upd s0 (bs.take k)).toNat) (fun _ i => n - (intOf i).toNat)
      case atStart => exact ⟨0, Nat.zero_le _, rfl, rfl⟩
      case round =>
        obtain ⟨k, hk, rfl, rfl⟩ := hrel
        by_cases hkn : k < n
        · obtain ⟨b, off, rfl, hcell⟩ := HC.out k hkn
          have hc1 : wr.cell? ⟨b, off + k, none⟩ = some (.int .u8 ((bs.getD k 0).toNat : Int)) := by
            rw [HB.out.cell (p := ⟨b, off + k, none⟩) (block_lt_of_cell hcell), hcell]
          clear hcell
          generalize hbk : bs.getD k 0 = bk at *
          generalize hrg : Crc32.upd s0 (bs.take k) = rg at *
          have HR := hide (And.intro hbk hrg)
          clear hbk hrg
          obtain ⟨ix, hix⟩ : ∃ ix : Nat, ix = (rg.setWidth 8 ^^^ bk).toNat := ⟨_, rfl⟩
          have hx : bits .xor .u8 ((rg.toNat : Int) % (256 : Int)) (bk.toNat : Int) = (ix : Int) := by rw [low8_w, xor_b, hix]
          have hlt : ix < 256 := by rw [hix]; exact BitVec.isLt _
          have hc2 := HT.out.cell ix hlt (by simp [Nat.mod_one])
          have HX : Hid (bits .xor .u32 ((Crc32.tab ix).toNat : Int) ((rg.toNat : Int) / (256 : Int)) = ((Crc32.s8 (rg ^^^ bk.setWidth 32)).toNat : Int)) := by
            unfold Hid
            rw [shr8_w, xor_w, Crc32.s8_table, hix]
          have HI := hide hix
          clear hix
          go_wp2
          go_round
          case rel =>
            refine ⟨k + 1, by omega, by go_num, ?_⟩
            rw [HX.out]
            have : bs.take (k + 1) = bs.take k ++ [bk] := by
              have hkl : k < bs.length := by rw [HN.out]; exact hkn
              rw [List.take_succ_eq_append_getElem hkl, ← HR.out.1, List.getD_eq_getElem?_getD, List.getElem?_eq_getElem hkl]
              rfl
            rw [this, Crc32.upd_snoc, HR.out.2]
          case measure => simp [intOf]; omega
        · go_wp2
          go_ret
          rw [not_w]
          refine ⟨ret_w ?_, HB.out⟩
          rw [List.take_of_length_le (by rw [HN.out]; omega), ← HS.out]
          rfl
set_option maxHeartbeats 400000 in
theorem sum_any (v : Value) (bs : List (BitVec 8)) (w : World) (h : Bytes w v bs) (hl : bs.length ≤ maxLen) :
    Calls Tryz.prog 187 #[v] w fun e w' => e = .returned (.int .u32 (Crc32.sum bs).toNat) ∧ Below w.heap.size w w' := by
  have H := hide h
  clear h
  go_enter Tryz.func187, Tryz.ntmps187
  go_wp2_with fail
  refine (update_any 0#32 v bs _ H.out hl).mono ?_
  rintro e w' ⟨rfl, hb⟩
  go_wp2
  go_ret
  exact ⟨rfl, hb⟩

end Go.Proofs.YtjklbhdhjfifhaaGreat

/-
  Frames as lists of bytes: what a frame's bytes are, what is wrong with a row's first frame, and which frames a row has.
-/
namespace Go.Proofs.YtjklbhdhjfifhaaGreat
namespace Fr

/-- A word's bytes, the lowest first. -/
def four (x : BitVec 32) : List (BitVec 8) := [x.setWidth 8, (x >>> 8).setWidth 8, (x >>> 16).setWidth 8, (x >>> 24).setWidth 8]
/-- The masked sum, as four bytes. -/
def msum (bs : List (BitVec 8)) : List (BitVec 8) := four (mask (Crc32.sum bs))
theorem msum_length (bs : List (BitVec 8)) : (msum bs).length = 4 := rfl
def plain (k : BitVec 8) (n : Nat) : List (BitVec 8) := [k, BitVec.ofNat 8 n, BitVec.ofNat 8 (n / 256), BitVec.ofNat 8 (n / 65536)]
def headB (k : BitVec 8) (n : Nat) : List (BitVec 8) := plain k n ++ msum (plain k n)
def frameB (k : BitVec 8) (body : List (BitVec 8)) : List (BitVec 8) := headB k body.length ++ (body ++ msum body)
theorem headB_length (k : BitVec 8) (n : Nat) : (headB k n).length = 8 := rfl
theorem frameB_length (k : BitVec 8) (body : List (BitVec 8)) : (frameB k body).length = body.length + 12 := by
  simp only [frameB, List.length_append, headB_length, msum_length]
  omega

def lenOf (bs : List (BitVec 8)) : Nat := (bs.getD 1 0).toNat + 256 * (bs.getD 2 0).toNat + 65536 * (bs.getD 3 0).toNat
def bodyOf (bs : List (BitVec 8)) : List (BitVec 8) := (bs.drop 8).take (lenOf bs)
theorem lenOf_lt (bs : List (BitVec 8)) : lenOf bs < 16777216 := by
  have := (bs.getD 1 0).isLt
  have := (bs.getD 2 0).isLt
  have := (bs.getD 3 0).isLt
  unfold lenOf
  omega
/-- What is wrong with the frame that stands first. -/
def fault (bs : List (BitVec 8)) : Nat :=
  if bs.length < 8 then 12
  else if (bs.drop 4).take 4 ≠ msum (bs.take 4) then 4
  else if 1048576 < lenOf bs then 3
  else if bs.length < lenOf bs + 12 then 12
  else if (bs.drop (8 + lenOf bs)).take 4 ≠ msum (bodyOf bs) then 4
  else 0

/-- All frames of a row, where it is torn, and why. -/
def row (bs : List (BitVec 8)) : List (BitVec 8 × List (BitVec 8)) × Nat × Nat :=
  if bs.length = 0 then ([], 0, 0)
  else if fault bs ≠ 0 then ([], 0, fault bs)
  else
    let r := row (bs.drop (lenOf bs + 12))
    ((bs.getD 0 0, bodyOf bs) :: r.1, lenOf bs + 12 + r.2.1, r.2.2)
termination_by bs.length
decreasing_by simp only [List.length_drop]; omega

theorem fault_len {bs : List (BitVec 8)} (h : fault bs = 0) : lenOf bs + 12 ≤ bs.length ∧ lenOf bs ≤ 1048576 := by
  unfold fault at h
  repeat' split at h
  all_goals first | omega | (exfalso; omega)

/-- The row of frames, one behind the other. -/
def rowB (l : List (BitVec 8 × List (BitVec 8))) : List (BitVec 8) := l.flatMap fun f => frameB f.1 f.2
theorem rowB_snoc (l : List (BitVec 8 × List (BitVec 8))) (f : BitVec 8 × List (BitVec 8)) : rowB (l ++ [f]) = rowB l ++ frameB f.1 f.2 := by simp [rowB]

/-- The head of a frame, with anything behind. -/
theorem len_plain (k : BitVec 8) (n : Nat) (h : n < 16777216) (t : List (BitVec 8)) : lenOf (plain k n ++ t) = n := by
  simp only [lenOf, plain, List.cons_append, List.getD_cons_succ, List.getD_cons_zero, BitVec.toNat_ofNat]
  omega
theorem frame_eq (k : BitVec 8) (body : List (BitVec 8)) : frameB k body = plain k body.length ++ (msum (plain k body.length) ++ (body ++ msum body)) := by
  simp only [frameB, headB, List.append_assoc]

theorem of_four {l : List (BitVec 8)} (h : l.length = 4) : ∃ a b c d, l = [a, b, c, d] := by
  match l, h with
  | [a, b, c, d], _ => exact ⟨a, b, c, d, rfl⟩

/-- Four parts, as a frame has them. -/
theorem fault_parts (p s body t rest : List (BitVec 8)) (hp : p.length = 4) (hs : s.length = 4) (ht : t.length = 4) (hl : lenOf p = body.length) (hb : body.length ≤ 1048576) :
    fault (p ++ (s ++ (body ++ (t ++ rest)))) = if s ≠ msum p then 4 else if t ≠ msum body then 4 else 0 := by
  obtain ⟨p0, p1, p2, p3, rfl⟩ := of_four hp
  obtain ⟨s0, s1, s2, s3, rfl⟩ := of_four hs
  have hl' : lenOf ([p0, p1, p2, p3] ++ ([s0, s1, s2, s3] ++ (body ++ (t ++ rest)))) = body.length := hl
  unfold fault bodyOf
  rw [hl']
  have e1 : ¬ ([p0, p1, p2, p3] ++ ([s0, s1, s2, s3] ++ (body ++ (t ++ rest)))).length < 8 := by simp only [List.length_append, List.length_cons, List.length_nil]; omega
  have e2 : ¬ ([p0, p1, p2, p3] ++ ([s0, s1, s2, s3] ++ (body ++ (t ++ rest)))).length < body.length + 12 := by simp only [List.length_append, List.length_cons, List.length_nil]; omega
  have e3 : (([p0, p1, p2, p3] ++ ([s0, s1, s2, s3] ++ (body ++ (t ++ rest)))).drop 8).take body.length = body := by
    show (body ++ (t ++ rest)).take body.length = body
    rw [List.take_left]
  have e4 : (([p0, p1, p2, p3] ++ ([s0, s1, s2, s3] ++ (body ++ (t ++ rest)))).drop (8 + body.length)).take 4 = t := by
    rw [← List.drop_drop]
    show (((body ++ (t ++ rest))).drop body.length).take 4 = t
    rw [List.drop_left, ← ht, List.take_left]
  rw [if_neg e1, e3, e4, if_neg (show ¬ 1048576 < body.length by omega), if_neg e2]
  rfl

theorem lenOf_plain (k : BitVec 8) (n : Nat) (h : n < 16777216) : lenOf (plain k n) = n := by
  have := len_plain k n h []
  rwa [List.append_nil] at this

theorem fault_frame (k : BitVec 8) (body rest : List (BitVec 8)) (h : body.length ≤ 1048576) : fault (frameB k body ++ rest) = 0 := by
  rw [frame_eq, List.append_assoc, List.append_assoc, List.append_assoc, fault_parts _ _ _ _ _ rfl rfl rfl (lenOf_plain k _ (by omega)) h]
  simp
theorem frame_len (k : BitVec 8) (body rest : List (BitVec 8)) (h : body.length ≤ 1048576) : lenOf (frameB k body ++ rest) = body.length := by
  rw [frame_eq, List.append_assoc]
  exact len_plain k _ (by omega) _
theorem frame_body (k : BitVec 8) (body rest : List (BitVec 8)) (h : body.length ≤ 1048576) : bodyOf (frameB k body ++ rest) = body := by
  unfold bodyOf
  rw [frame_len k body rest h, frameB, List.append_assoc, List.append_assoc]
  show (body ++ (msum body ++ rest)).take body.length = body
  rw [List.take_left]
/-- How many frames are whole ahead of a cut, and where the last one ends. -/
def wholes : List (BitVec 8 × List (BitVec 8)) → Nat → Nat
  | [], _ => 0
  | f :: l, k => if k < f.2.length + 12 then 0 else 1 + wholes l (k - (f.2.length + 12))

end Fr
end Go.Proofs.YtjklbhdhjfifhaaGreat
