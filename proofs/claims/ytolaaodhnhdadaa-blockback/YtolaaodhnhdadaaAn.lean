/-
  Numbers, pieces and writes behind bytes of one's own.
-/
import Derived.Test.YtolaaodhnhdadaaCh
namespace Go.Proofs.Ytolaaodhnhdadaa
open Go.RowKit
set_option maxRecDepth 100000
set_option maxHeartbeats 4000000
theorem short_le : ∀ (k x : Nat), x < 2 ^ (7 * (k + 1)) → (short x).length ≤ k + 1
  | 0, x, h => by rw [short_lt (by omega)]; simp
  | k + 1, x, h => by
    by_cases hx : x < 128
    · rw [short_lt hx]; simp
    · rw [short_ge hx, List.length_cons]
      have h7 : 2 ^ (7 * (k + 1 + 1)) = 128 * 2 ^ (7 * (k + 1)) := by rw [Nat.mul_add 7 (k + 1), Nat.pow_add, Nat.mul_comm]
      have := short_le k (x / 128) (by omega)
      omega
theorem short_len (x : Nat) (h : x < 18446744073709551616) : (short x).length ≤ 10 := short_le 9 x (Nat.lt_of_lt_of_le h (by decide))
theorem make22 (C : Nat) (hC : C ≤ 1000000) (w : World) : ∃ cs : Array Value, (Instr.makeSlice 22 (.int .i64 0) (.int .i64 (C : Int))).run Try.prog w = .ok (.slice (some ⟨w.heap.size, 0, none⟩) 0 C) (w.alloc (.cells cs 5)) ∧ cs.size = C := by
  have hr := run_make (P := Try.prog) w 22 5 Try.t5 (.int .u8 0) Try.underlying22 info5 zero5 .i64 .i64 0 C (Int.le_refl _) (by omega) (by rw [bytes5]; omega) (by omega)
  simp only [Int.toNat_zero, Int.toNat_natCast] at hr
  exact ⟨_, hr, by rw [size_madeCells, sz5, Nat.mul_one]⟩
theorem row_made {w : World} {cs : Array Value} {C : Nat} (h : cs.size = C) : RowB (w.alloc (.cells cs 5)) w.heap.size C [] := ⟨cs, heap_alloc_new w _, by omega, fun k hk => by simp [cellsOf] at hk⟩
theorem extend_nil (n : Nat) (hn : n ≤ 10) (w : World) : Calls Try.prog 50 #[.slice none 0 0, .int .i64 n] w fun e w' => ∃ g, e = .returned (.slice (some ⟨g, 0, none⟩) 0 n) ∧ w.heap.size ≤ g ∧ RowB w' g n [] ∧ Below w.heap.size w w' := by
  obtain ⟨cs, hmk, hcs⟩ := make22 n (by omega) w
  have hb : Below w.heap.size w (w.alloc (.cells cs 5)) := (Below.refl _ _).alloc (Nat.le_refl _) _
  obtain ⟨g, c, w2, hr, hg, hrow, hb2, hc, hroom, _⟩ := append_bytes2 (w.alloc (.cells cs 5)) w.heap.size (some ⟨w.heap.size, 0, none⟩) 0 n [] rfl (.slice none 0 0) [] 0 rfl (Bytes.empty _) (by simp)
    (.inr ⟨_, rfl, Nat.le_refl _, Nat.zero_le _, row_made hcs⟩) (by omega)
  obtain ⟨e1, rfl⟩ := hroom (by omega)
  obtain rfl : g = w.heap.size := by cases e1; rfl
  rw [Nat.add_zero] at hr
  have HR := hide hr
  have HW := hide hrow
  have HB := hide (hb.trans hb2)
  clear hr hrow hb hb2 hcs hroom e1 hc
  go_enter Try.func50, Try.ntmps50
  go_wp2_with (at_builtin; refine wpList_append_run rfl (.tmp 9) (.tmp 10) 22 rfl (.slice (some ⟨w.heap.size, 0, none⟩) 0 c) (.slice none 0 0) rfl rfl _ _ (HR.out _) ?_)
  go_ret
  exact ⟨_, rfl, hg, HW.out, HB.out⟩

theorem ofInt_b (x : BitVec 8) : BitVec.ofInt 8 (x.toNat : Int) = x := by
  rw [BitVec.ofInt_natCast, BitVec.ofNat_toNat]
  simp
theorem wrap_b (x : BitVec 8) : IntKind.u8.wrap (x.toNat : Int) = x.toNat := by
  have := x.isLt
  simp [IntKind.wrap, IntKind.bits, IntKind.signed]
  omega
theorem or_b (x y : BitVec 8) : bits .or .u8 (x.toNat : Int) (y.toNat : Int) = ((x ||| y).toNat : Int) := by
  show IntKind.u8.wrap ((BitVec.ofInt 8 (x.toNat : Int) ||| BitVec.ofInt 8 (y.toNat : Int)).toNat : Int) = _
  rw [ofInt_b, ofInt_b, wrap_b]
theorem or128 (b : BitVec 8) : (b ||| 128#8).toNat = b.toNat % 128 + 128 := by
  have h : ∀ i : Fin 256, i.val ||| 128 = i.val % 128 + 128 := by decide
  rw [BitVec.toNat_or]
  exact h ⟨b.toNat, b.isLt⟩
theorem or_more (x : Nat) : bits .or .u8 ((x : Int) % 256) 128 = ((BitVec.ofNat 8 (x % 128 + 128)).toNat : Int) := by
  have e : (x : Int) % 256 = ((BitVec.ofNat 8 x).toNat : Int) := by simp
  rw [e, show (128 : Int) = ((128#8).toNat : Int) from rfl, or_b, or128]
  simp
  omega
/-- One byte behind bytes of one's own, of a row of one that was made for it. -/
theorem bytes_one {w : World} (b : BitVec 8) : Bytes (w.alloc (.cells #[.int .u8 (b.toNat : Int)] 5)) (.slice (some ⟨w.heap.size, 0, none⟩) 1 1) [b] := by
  refine ⟨_, 1, rfl, fun k hk => ⟨w.heap.size, 0, rfl, ?_⟩⟩
  obtain rfl : k = 0 := by simpa using hk
  exact cell_of_row _ _ 0 _ 5 (0, 0) (heap_alloc_new w _)

theorem bytes_nat {w : World} (y : Nat) (hy : y < 256) : Bytes (w.alloc (.cells #[.int .u8 (y : Int)] 5)) (.slice (some ⟨w.heap.size, 0, none⟩) 1 1) [BitVec.ofNat 8 y] := by
  have := bytes_one (w := w) (BitVec.ofNat 8 y)
  rw [show (BitVec.ofNat 8 y).toNat = y by simp; omega] at this
  exact this
/-- A row that grew: only it may have turned, or it lies in new memory. -/
structure Grow (g : Nat) (w : World) (g' : Nat) (w' : World) : Prop where
  own : g' = g ∨ w.heap.size ≤ g'
  turns : Turns (fun k => k = g) w w'
theorem Grow.refl (g : Nat) (w : World) : Grow g w g w := ⟨.inl rfl, Turns.refl _ _⟩
theorem Grow.trans {g g1 g2 : Nat} {w w1 w2 : World} (h : Grow g w g1 w1) (k : Grow g1 w1 g2 w2) : Grow g w g2 w2 := by
  have hs := h.turns.size
  refine ⟨?_, h.turns.andThen k.turns fun j hj e => ?_⟩
  · rcases k.own with rfl | e
    · exact h.own
    · exact .inr (Nat.le_trans hs e)
  · rcases h.own with e1 | e1
    · exact e.trans e1
    · omega
theorem Grow.before {g g' : Nat} {w w1 w' : World} (h : Below w.heap.size w w1) (k : Grow g w1 g' w') : Grow g w g' w' :=
  ⟨k.own.imp id (Nat.le_trans h.size), (Turns.of_below h _).trans k.turns⟩
theorem Grow.below {g g' B : Nat} {w w' : World} (h : Grow g w g' w') (hB : B ≤ w.heap.size) (hg : B ≤ g) : Below B w w' := h.turns.below hB fun k e => by omega
theorem Grow.ge {g g' B : Nat} {w w' : World} (h : Grow g w g' w') (hB : B ≤ w.heap.size) (hg : B ≤ g) : B ≤ g' := by
  rcases h.own with e | e <;> omega
/-- Append of bytes to a row of one's own. -/
theorem append_grow (w : World) (g m c : Nat) (bs : List (BitVec 8)) (hm : m = bs.length) (x : Value) (news : List (BitVec 8)) (n : Nat) (hn : n = news.length) (hx : Bytes w x news) (hmc : m ≤ c) (hrow : RowB w g c bs) (hsm : m + n ≤ 140737488355328) :
    ∃ g' c' w', (∀ ty, (Builtin.append_ #[22, 22] ty #[.slice (some ⟨g, 0, none⟩) m c, x]).run Try.prog w = .ok (.slice (some ⟨g', 0, none⟩) (m + n) c') w') ∧ m + n ≤ c' ∧ RowB w' g' c' (bs ++ news) ∧ Grow g w g' w' := by
  have hlt : g < w.heap.size := by
    obtain ⟨cs, h1, _⟩ := hrow
    exact lt_of_heap h1
  obtain ⟨g', c', w', hr, hg', hrow', hb', hc', h1, h2, h3⟩ := append_bytes2 w g (some ⟨g, 0, none⟩) m c bs hm x news n hn hx (Nat.le_of_lt hlt) (.inr ⟨g, rfl, Nat.le_refl _, hmc, hrow⟩) hsm
  refine ⟨g', c', w', hr, hc', hrow', ?_, ⟨hb'.os, hb'.tape, hb'.output, hb'.size, fun k hk hn => h3 k hk (fun e => hn (by cases e; rfl))⟩⟩
  rcases Nat.lt_or_ge c (m + n) with h | h
  · exact .inr (Nat.le_of_eq (h2 h).symm)
  · obtain ⟨e, _⟩ := h1 h
    cases e
    exact .inl rfl
/-- One byte more, of a number. -/
theorem append_nat (w : World) (g m c : Nat) (bs : List (BitVec 8)) (hm : m = bs.length) (y : Nat) (hy : y < 256) (hrow : RowB w g c bs) (hmc : m ≤ c) (hb : m ≤ 900000000) :
    ∃ g' c' w', (∀ ty, (Builtin.append_ #[22, 22] ty #[.slice (some ⟨g, 0, none⟩) m c, .slice (some ⟨w.heap.size, 0, none⟩) 1 1]).run Try.prog (w.alloc (.cells #[.int .u8 (y : Int)] 5)) = .ok (.slice (some ⟨g', 0, none⟩) (m + 1) c') w') ∧ m + 1 ≤ c' ∧ RowB w' g' c' (bs ++ [BitVec.ofNat 8 y]) ∧ Grow g w g' w' := by
  have b1 := (Below.refl w.heap.size w).alloc (Nat.le_refl _) (.cells #[.int .u8 (y : Int)] 5)
  obtain ⟨g', c', w', hr, hc', hrow', hg'⟩ := append_grow (w.alloc (.cells #[.int .u8 (y : Int)] 5)) g m c bs hm (.slice (some ⟨w.heap.size, 0, none⟩) 1 1) [BitVec.ofNat 8 y] 1 rfl (bytes_nat y hy) hmc (RowC.below hrow b1) (by omega)
  exact ⟨g', c', w', hr, hc', hrow', hg'.before b1⟩
theorem appendShort_any (g c : Nat) (bs : List (BitVec 8)) (m : Nat) (hm : m = bs.length) (x : Nat) (hx : x < 18446744073709551616) (w : World) (hmc : m ≤ c) (hrow : RowB w g c bs) (hb : m ≤ 800000000) :
    Calls Try.prog 49 #[.slice (some ⟨g, 0, none⟩) m c, .int .u64 x] w fun e w' => ∃ g' c', e = .returned (.slice (some ⟨g', 0, none⟩) (m + (short x).length) c') ∧ m + (short x).length ≤ c' ∧ RowB w' g' c' (bs ++ short x) ∧ Grow g w g' w' := by
  have HR := hide hrow
  have HM := hide hm
  clear hrow hm
  go_enter Try.func49, Try.ntmps49
  go_wp2_with fail
  go_loopw [0, 1] (fun v z wr => ∃ (g1 c1 m1 y : Nat) (bs1 : List (BitVec 8)), v = .slice (some ⟨g1, 0, none⟩) m1 c1 ∧ z = .int .u64 (y : Nat) ∧ y ≤ x ∧ m1 = bs1.length ∧ m1 ≤ c1 ∧ bs1 ++ short y = bs ++ short x ∧ RowB wr g1 c1 bs1 ∧ Grow g w g1 wr) (fun _ z _ => (intOf z).toNat)
  case atStart => exact ⟨g, c, m, x, bs, rfl, rfl, Nat.le_refl _, HM.out, hmc, rfl, HR.out, Grow.refl _ _⟩
  case round =>
    obtain ⟨g1, c1, m1, y, bs1, rfl, rfl, hy, hm1, hmc1, heq, hrow1, hb1⟩ := hrel
    have HE := hide heq
    have HM1 := hide hm1
    have HR1 := hide hrow1
    have HB1 := hide hb1
    have hlen : m1 ≤ 800000010 := by
      have := congrArg List.length heq
      rw [List.length_append, List.length_append, ← HM.out, ← hm1] at this
      have := short_len x hx
      omega
    clear heq hm1 hrow1 hb1
    by_cases h128 : y < 128
    · have h128' : ¬ (128 : Int) ≤ (y : Int) := by omega
      have hmb : m1 + 1 = m + (short x).length := by
        have := congrArg List.length HE.out
        rw [short_lt h128, List.length_append, List.length_append, ← HM.out, ← HM1.out] at this
        simpa using this
      obtain ⟨g2, c2, w2, hr, hc2, hrow2, hb2⟩ := append_nat wr g1 m1 c1 bs1 HM1.out y (by omega) HR1.out hmc1 (by have := hlen; omega)
      have HA := hide hr
      have HR2 := hide hrow2
      have HB2 := hide (HB1.out.trans hb2)
      have HMB := hide hmb
      clear hr hrow2 hb2 hmb
      go_wp2_with (at_builtin; refine wpList_append_run rfl (.tmp 15) (.tmp 18) 22 rfl (.slice (some ⟨g1, 0, none⟩) m1 c1) (.slice (some ⟨wr.heap.size, 0, none⟩) 1 1) rfl rfl _ _ (HA.out _) ?_)
      go_ret
      refine ⟨g2, c2, ?_, ?_, ?_, HB2.out⟩
      · rw [← HMB.out]; rfl
      · rw [← HMB.out]; exact hc2
      · rw [← HE.out, short_lt h128]; exact HR2.out
    · have h128' : (128 : Int) ≤ (y : Int) := by omega
      obtain ⟨q, hq, hq2⟩ : ∃ q : Nat, bits .or .u8 ((y : Int) % 256) 128 = (q : Int) ∧ q = y % 128 + 128 := ⟨y % 128 + 128, by rw [or_more]; simp; omega, rfl⟩
      have HQ := hide hq2
      have hq3 : q < 256 := by omega
      clear hq2
      obtain ⟨g2, c2, w2, hr, hc2, hrow2, hb2⟩ := append_nat wr g1 m1 c1 bs1 HM1.out q hq3 HR1.out hmc1 (by have := hlen; omega)
      have HA := hide hr
      have HR2 := hide hrow2
      have HB2 := hide (HB1.out.trans hb2)
      clear hr hrow2 hb2
      go_wp2_with (at_builtin; refine wpList_append_run rfl (.tmp 7) (.tmp 11) 22 rfl (.slice (some ⟨g1, 0, none⟩) m1 c1) (.slice (some ⟨wr.heap.size, 0, none⟩) 1 1) rfl rfl _ _ (HA.out _) ?_)
      go_roundw
      case rel =>
        refine ⟨g2, c2, m1 + 1, y / 128, bs1 ++ [BitVec.ofNat 8 q], rfl, by go_num, by omega, ?_, hc2, ?_, HR2.out, HB2.out⟩
        · rw [List.length_append, ← HM1.out]; rfl
        · rw [← HE.out, short_ge h128, HQ.out, List.append_assoc]; rfl
      case measure => simp [intOf]; omega
end Go.Proofs.Ytolaaodhnhdadaa
