import Derived.Test.YtmmcikbedegigaaGreatM05
import Derived.Test.YtmmcikbedegigaaGreatM01
import Derived.Test.YtmmcikbedegigaaGreatM02
/-
  Numbers, pieces and writes behind bytes of one's own.
-/
namespace Go.Proofs.YtmmcikbedegigaaGreat
open Go.RowKit
set_option maxRecDepth 100000
set_option maxHeartbeats 4000000
theorem short_le : ∀ (k x : Nat), x < 2 ^ (7 * (k + 1)) → (short x).length ≤ k + 1
  | 0, x, h => by rw [short_lt (by omega)]; simp
  | k + 1, x, h => by
    by_cases hx : x < 128
    · rw [short_lt hx]; simp
    · rw [short_ge hx, List.length_cons]
      have h7 : 2 ^ (7 * (k + 1 + 1)) = 128 * 2 ^ (7 * (k + 1)) := by rw [Nat.mul_add 7 (k + 1), Nat.pow_add, Nat.mul_comm]
      have := short_le k (x / 128) (by omega)
      omega
theorem short_len (x : Nat) (h : x < 18446744073709551616) : (short x).length ≤ 10 := short_le 9 x (Nat.lt_of_lt_of_le h (by decide))
theorem make22 (C : Nat) (hC : C ≤ 1000000) (w : World) : ∃ cs : Array Value, (Instr.makeSlice 38 (.int .i64 0) (.int .i64 (C : Int))).run Tryz.prog w = .ok (.slice (some ⟨w.heap.size, 0, none⟩) 0 C) (w.alloc (.cells cs 5)) ∧ cs.size = C := by
  have hr := run_make (P := Tryz.prog) w 38 5 Tryz.t5 (.int .u8 0) Tryz.underlying38 info5 zero5 .i64 .i64 0 C (Int.le_refl _) (by omega) (by rw [bytes5]; omega) (by omega)
  simp only [Int.toNat_zero, Int.toNat_natCast] at hr
  exact ⟨_, hr, by rw [size_madeCells, sz5, Nat.mul_one]⟩
theorem row_made {w : World} {cs : Array Value} {C : Nat} (h : cs.size = C) : RowB (w.alloc (.cells cs 5)) w.heap.size C [] := ⟨cs, heap_alloc_new w _, by omega, fun k hk => by simp [cellsOf] at hk⟩
theorem extend_nil (n : Nat) (hn : n ≤ 10) (w : World) : Calls Tryz.prog 82 #[.slice none 0 0, .int .i64 n] w fun e w' => ∃ g, e = .returned (.slice (some ⟨g, 0, none⟩) 0 n) ∧ w.heap.size ≤ g ∧ RowB w' g n [] ∧ Below w.heap.size w w' := by
  obtain ⟨cs, hmk, hcs⟩ := make22 n (by omega) w
  have hb : Below w.heap.size w (w.alloc (.cells cs 5)) := (Below.refl _ _).alloc (Nat.le_refl _) _
  obtain ⟨g, c, w2, hr, hg, hrow, hb2, hc, hroom, _⟩ := append_bytes2 (w.alloc (.cells cs 5)) w.heap.size (some ⟨w.heap.size, 0, none⟩) 0 n [] rfl (.slice none 0 0) [] 0 rfl (Bytes.empty _) (by simp)
    (.inr ⟨_, rfl, Nat.le_refl _, Nat.zero_le _, row_made hcs⟩) (by omega)
  obtain ⟨e1, rfl⟩ := hroom (by omega)
  obtain rfl : g = w.heap.size := by cases e1; rfl
  rw [Nat.add_zero] at hr
  have HR := hide hr
  have HW := hide hrow
  have HB := hide (hb.trans hb2)
  clear hr hrow hb hb2 hcs hroom e1 hc
  go_enter Tryz.func82, Tryz.ntmps82
  go_wp2_with (at_builtin; refine wpList_append_run rfl (.tmp 9) (.tmp 10) 38 rfl (.slice (some ⟨w.heap.size, 0, none⟩) 0 c) (.slice none 0 0) rfl rfl _ _ (HR.out _) ?_)
  go_ret
  exact ⟨_, rfl, hg, HW.out, HB.out⟩

theorem ofInt_b (x : BitVec 8) : BitVec.ofInt 8 (x.toNat : Int) = x := by
  rw [BitVec.ofInt_natCast, BitVec.ofNat_toNat]
  simp
theorem wrap_b (x : BitVec 8) : IntKind.u8.wrap (x.toNat : Int) = x.toNat := by
  have := x.isLt
  simp [IntKind.wrap, IntKind.bits, IntKind.signed]
  omega
theorem or_b (x y : BitVec 8) : bits .or .u8 (x.toNat : Int) (y.toNat : Int) = ((x ||| y).toNat : Int) := by
  show IntKind.u8.wrap ((BitVec.ofInt 8 (x.toNat : Int) ||| BitVec.ofInt 8 (y.toNat : Int)).toNat : Int) = _
  rw [ofInt_b, ofInt_b, wrap_b]
theorem or128 (b : BitVec 8) : (b ||| 128#8).toNat = b.toNat % 128 + 128 := by
  have h : ∀ i : Fin 256, i.val ||| 128 = i.val % 128 + 128 := by decide
  rw [BitVec.toNat_or]
  exact h ⟨b.toNat, b.isLt⟩
theorem or_more (x : Nat) : bits .or .u8 ((x : Int) % 256) 128 = ((BitVec.ofNat 8 (x % 128 + 128)).toNat : Int) := by
  have e : (x : Int) % 256 = ((BitVec.ofNat 8 x).toNat : Int) := by simp
  rw [e, show (128 : Int) = ((128#8).toNat : Int) from rfl, or_b, or128]
  simp
  omega
/-- One byte behind bytes of one's own, of a row of one that was made for it. -/
theorem bytes_one {w : World} (b : BitVec 8) : Bytes (w.alloc (.cells #[.int .u8 (b.toNat : Int)] 5)) (.slice (some ⟨w.heap.size, 0, none⟩) 1 1) [b] := by
  refine ⟨_, 1, rfl, fun k hk => ⟨w.heap.size, 0, rfl, ?_⟩⟩
  obtain rfl : k = 0 := by simpa using hk
  exact cell_of_row _ _ 0 _ 5 (0, 0) (heap_alloc_new w _)

theorem bytes_nat {w : World} (y : Nat) (hy : y < 256) : Bytes (w.alloc (.cells #[.int .u8 (y : Int)] 5)) (.slice (some ⟨w.heap.size, 0, none⟩) 1 1) [BitVec.ofNat 8 y] := by
  have := bytes_one (w := w) (BitVec.ofNat 8 y)
  rw [show (BitVec.ofNat 8 y).toNat = y by simp; omega] at this
  exact this
/-- A row that grew: only it may have turned, or it lies in new memory. -/
structure Grow (g : Nat) (w : World) (g' : Nat) (w' : World) : Prop where
  own : g' = g ∨ w.heap.size ≤ g'
  turns : Turns (fun k => k = g) w w'
theorem Grow.refl (g : Nat) (w : World) : Grow g w g w := ⟨.inl rfl, Turns.refl _ _⟩
theorem Grow.trans {g g1 g2 : Nat} {w w1 w2 : World} (h : Grow g w g1 w1) (k : Grow g1 w1 g2 w2) : Grow g w g2 w2 := by
  have hs := h.turns.size
  refine ⟨?_, h.turns.andThen k.turns fun j hj e => ?_⟩
  · rcases k.own with rfl | e
    · exact h.own
    · exact .inr (Nat.le_trans hs e)
  · rcases h.own with e1 | e1
    · exact e.trans e1
    · omega
theorem Grow.before {g g' : Nat} {w w1 w' : World} (h : Below w.heap.size w w1) (k : Grow g w1 g' w') : Grow g w g' w' :=
  ⟨k.own.imp id (Nat.le_trans h.size), (Turns.of_below h _).trans k.turns⟩
theorem Grow.below {g g' B : Nat} {w w' : World} (h : Grow g w g' w') (hB : B ≤ w.heap.size) (hg : B ≤ g) : Below B w w' := h.turns.below hB fun k e => by omega
theorem Grow.ge {g g' B : Nat} {w w' : World} (h : Grow g w g' w') (hB : B ≤ w.heap.size) (hg : B ≤ g) : B ≤ g' := by
  rcases h.own with e | e <;> omega
/-- Append of bytes to a row of one's own. -/
theorem append_grow (w : World) (g m c : Nat) (bs : List (BitVec 8)) (hm : m = bs.length) (x : Value) (news : List (BitVec 8)) (n : Nat) (hn : n = news.length) (hx : Bytes w x news) (hmc : m ≤ c) (hrow : RowB w g c bs) (hsm : m + n ≤ 140737488355328) :
    ∃ g' c' w', (∀ ty, (Builtin.append_ #[38, 38] ty #[.slice (some ⟨g, 0, none⟩) m c, x]).run Tryz.prog w = .ok (.slice (some ⟨g', 0, none⟩) (m + n) c') w') ∧ m + n ≤ c' ∧ RowB w' g' c' (bs ++ news) ∧ Grow g w g' w' := by
  have hlt : g < w.heap.size := by
    obtain ⟨cs, h1, _⟩ := hrow
    exact lt_of_heap h1
  obtain ⟨g', c', w', hr, hg', hrow', hb', hc', h1, h2, h3⟩ := append_bytes2 w g (some ⟨g, 0, none⟩) m c bs hm x news n hn hx (Nat.le_of_lt hlt) (.inr ⟨g, rfl, Nat.le_refl _, hmc, hrow⟩) hsm
  refine ⟨g', c', w', hr, hc', hrow', ?_, ⟨hb'.os, hb'.tape, hb'.output, hb'.size, fun k hk hn => h3 k hk (fun e => hn (by cases e; rfl))⟩⟩
  rcases Nat.lt_or_ge c (m + n) with h | h
  · exact .inr (Nat.le_of_eq (h2 h).symm)
  · obtain ⟨e, _⟩ := h1 h
    cases e
    exact .inl rfl
/-- One byte more, of a number. -/
theorem append_nat (w : World) (g m c : Nat) (bs : List (BitVec 8)) (hm : m = bs.length) (y : Nat) (hy : y < 256) (hrow : RowB w g c bs) (hmc : m ≤ c) (hb : m ≤ 900000000) :
    ∃ g' c' w', (∀ ty, (Builtin.append_ #[38, 38] ty #[.slice (some ⟨g, 0, none⟩) m c, .slice (some ⟨w.heap.size, 0, none⟩) 1 1]).run Tryz.prog (w.alloc (.cells #[.int .u8 (y : Int)] 5)) = .ok (.slice (some ⟨g', 0, none⟩) (m + 1) c') w') ∧ m + 1 ≤ c' ∧ RowB w' g' c' (bs ++ [BitVec.ofNat 8 y]) ∧ Grow g w g' w' := by
  have b1 := (Below.refl w.heap.size w).alloc (Nat.le_refl _) (.cells #[.int .u8 (y : Int)] 5)
  obtain ⟨g', c', w', hr, hc', hrow', hg'⟩ := append_grow (w.alloc (.cells #[.int .u8 (y : Int)] 5)) g m c bs hm (.slice (some ⟨w.heap.size, 0, none⟩) 1 1) [BitVec.ofNat 8 y] 1 rfl (bytes_nat y hy) hmc (RowC.below hrow b1) (by omega)
  exact ⟨g', c', w', hr, hc', hrow', hg'.before b1⟩
theorem appendShort_any (g c : Nat) (bs : List (BitVec 8)) (m : Nat) (hm : m = bs.length) (x : Nat) (hx : x < 18446744073709551616) (w : World) (hmc : m ≤ c) (hrow : RowB w g c bs) (hb : m ≤ 800000000) :
    Calls Tryz.prog 81 #[.slice (some ⟨g, 0, none⟩) m c, .int .u64 x] w fun e w' => ∃ g' c', e = .returned (.slice (some ⟨g', 0, none⟩) (m + (short x).length) c') ∧ m + (short x).length ≤ c' ∧ RowB w' g' c' (bs ++ short x) ∧ Grow g w g' w' := by
  have HR := hide hrow
  have HM := hide hm
  clear hrow hm
  go_enter Tryz.func81, Tryz.ntmps81
  go_wp2_with fail
  go_loopw [0, 1] (fun v z wr => ∃ (g1 c1 m1 y : Nat) (bs1 : List (BitVec 8)), v = .slice (some ⟨g1, 0, none⟩) m1 c1 ∧ z = .int .u64 (y : Nat) ∧ y ≤ x ∧ m1 = bs1.length ∧ m1 ≤ c1 ∧ bs1 ++ short y = bs ++ short x ∧ RowB wr g1 c1 bs1 ∧ Grow g w g1 wr) (fun _ z _ => (intOf z).toNat)
  case atStart => exact ⟨g, c, m, x, bs, rfl, rfl, Nat.le_refl _, HM.out, hmc, rfl, HR.out, Grow.refl _ _⟩
  case round =>
    obtain ⟨g1, c1, m1, y, bs1, rfl, rfl, hy, hm1, hmc1, heq, hrow1, hb1⟩ := hrel
    have HE := hide heq
    have HM1 := hide hm1
    have HR1 := hide hrow1
    have HB1 := hide hb1
    have hlen : m1 ≤ 800000010 := by
      have := congrArg List.length heq
      rw [List.length_append, List.length_append, ← HM.out, ← hm1] at this
      have := short_len x hx
      omega
    clear heq hm1 hrow1 hb1
    by_cases h128 : y < 128
    · have h128' : ¬ (128 : Int) ≤ (y : Int) := by omega
      have hmb : m1 + 1 = m + (short x).length := by
        have := congrArg List.length HE.out
        rw [short_lt h128, List.length_append, List.length_append, ← HM.out, ← HM1.out] at this
        simpa using this
      obtain ⟨g2, c2, w2, hr, hc2, hrow2, hb2⟩ := append_nat wr g1 m1 c1 bs1 HM1.out y (by omega) HR1.out hmc1 (by have := hlen; omega)
      have HA := hide hr
      have HR2 := hide hrow2
      have HB2 := hide (HB1.out.trans hb2)
      have HMB := hide hmb
      clear hr hrow2 hb2 hmb
      go_wp2_with (at_builtin; refine wpList_append_run rfl (.tmp 15) (.tmp 18) 38 rfl (.slice (some ⟨g1, 0, none⟩) m1 c1) (.slice (some ⟨wr.heap.size, 0, none⟩) 1 1) rfl rfl _ _ (HA.out _) ?_)
      go_ret
      refine ⟨g2, c2, ?_, ?_, ?_, HB2.out⟩
      · rw [← HMB.out]; rfl
      · rw [← HMB.out]; exact hc2
      · rw [← HE.out, short_lt h128]; exact HR2.out
    · have h128' : (128 : Int) ≤ (y : Int) := by omega
      obtain ⟨q, hq, hq2⟩ : ∃ q : Nat, bits .or .u8 ((y : Int) % 256) 128 = (q : Int) ∧ q = y % 128 + 128 := ⟨y % 128 + 128, by rw [or_more]; simp; omega, rfl⟩
      have HQ := hide hq2
      have hq3 : q < 256 := by omega
      clear hq2
      obtain ⟨g2, c2, w2, hr, hc2, hrow2, hb2⟩ := append_nat wr g1 m1 c1 bs1 HM1.out q hq3 HR1.out hmc1 (by have := hlen; omega)
      have HA := hide hr
      have HR2 := hide hrow2
      have HB2 := hide (HB1.out.trans hb2)
      clear hr hrow2 hb2
      go_wp2_with (at_builtin; refine wpList_append_run rfl (.tmp 7) (.tmp 11) 38 rfl (.slice (some ⟨g1, 0, none⟩) m1 c1) (.slice (some ⟨wr.heap.size, 0, none⟩) 1 1) rfl rfl _ _ (HA.out _) ?_)
      go_roundw
      case rel =>
        refine ⟨g2, c2, m1 + 1, y / 128, bs1 ++ [BitVec.ofNat 8 q], rfl, by go_num, by omega, ?_, hc2, ?_, HR2.out, HB2.out⟩
        · rw [List.length_append, ← HM1.out]; rfl
        · rw [← HE.out, short_ge h128, HQ.out, List.append_assoc]; rfl
      case measure => simp [intOf]; omega
end Go.Proofs.YtmmcikbedegigaaGreat

/-
  Files and where their bytes lie; whether a file may be.
-/
namespace Go.Proofs.YtmmcikbedegigaaGreat
open Go.RowKit
set_option maxRecDepth 100000
set_option maxHeartbeats 4000000
structure Fl where
  no : Nat
  size : Int
  least : List (BitVec 8)
  most : List (BitVec 8)
  ents : Int
  seq : Nat
/-- A file and where its bytes lie. -/
structure Tf where
  la : Option Addr
  lc : Nat
  ma : Option Addr
  mc : Nat
  f : Fl
def Tf.lv (x : Tf) : Value := .slice x.la x.f.least.length x.lc
def Tf.mv (x : Tf) : Value := .slice x.ma x.f.most.length x.mc
def Tf.cells (x : Tf) : List Value := [.int .u64 (x.f.no : Nat), .int .i64 x.f.size, x.lv, x.mv, .int .i64 x.f.ents, .int .u64 (x.f.seq : Nat)]
def Tf.agg (x : Tf) : Value := .agg #[.int .u64 (x.f.no : Nat), .int .i64 x.f.size, .slice x.la x.f.least.length x.lc, .slice x.ma x.f.most.length x.mc, .int .i64 x.f.ents, .int .u64 (x.f.seq : Nat)]
/-- The bytes of a file. -/
def FB (w : World) (x : Tf) : Prop := Bytes w (.slice x.la x.f.least.length x.lc) x.f.least ∧ Bytes w (.slice x.ma x.f.most.length x.mc) x.f.most
theorem FB.quiet {w w' : World} {x : Tf} (h : FB w x) (t : Turns (fun _ => False) w w') : FB w' x := ⟨h.1.quiet t, h.2.quiet t⟩
/-- Files, one behind the other. -/
def Fils (w : World) (a : Option Addr) (l : List Tf) : Prop :=
  ∀ (k : Nat) (x : Tf), l[k]? = some x → (∃ b off, a = some ⟨b, off, none⟩ ∧ ∀ (j : Nat) (u : Value), x.cells[j]? = some u → w.cell? ⟨b, off + k * 6 + j, none⟩ = some u) ∧ FB w x
theorem Fils.quiet {w w' : World} {a : Option Addr} {l : List Tf} (h : Fils w a l) (t : Turns (fun _ => False) w w') : Fils w' a l := fun k x hx => by
  obtain ⟨⟨b, off, h1, h2⟩, h3⟩ := h k x hx
  exact ⟨⟨b, off, h1, fun j u hu => t.cell (h2 j u hu) (fun x => x)⟩, h3.quiet t⟩
/-- The six cells of a file. -/
structure F6 (u : World) (b o : Nat) (x : Tf) : Prop where
  c0 : u.cell? ⟨b, o, none⟩ = some (.int .u64 (x.f.no : Nat))
  c1 : u.cell? ⟨b, o + 1, none⟩ = some (.int .i64 x.f.size)
  c2 : u.cell? ⟨b, o + 2, none⟩ = some (.slice x.la x.f.least.length x.lc)
  c3 : u.cell? ⟨b, o + 3, none⟩ = some (.slice x.ma x.f.most.length x.mc)
  c4 : u.cell? ⟨b, o + 4, none⟩ = some (.int .i64 x.f.ents)
  c5 : u.cell? ⟨b, o + 5, none⟩ = some (.int .u64 (x.f.seq : Nat))
theorem F6.quiet {w w' : World} {b o : Nat} {x : Tf} (h : F6 w b o x) (t : Turns (fun _ => False) w w') : F6 w' b o x :=
  ⟨t.cell h.c0 (fun x => x), t.cell h.c1 (fun x => x), t.cell h.c2 (fun x => x), t.cell h.c3 (fun x => x), t.cell h.c4 (fun x => x), t.cell h.c5 (fun x => x)⟩
theorem fc_of {w : World} {a : Option Addr} {l : List Tf} (h : Fils w a l) {k : Nat} {x : Tf} (hx : l[k]? = some x) : ∃ b off, a = some ⟨b, off, none⟩ ∧ F6 w b (off + k * 6) x ∧ FB w x := by
  obtain ⟨⟨b, off, h1, h2⟩, h3⟩ := h k x hx
  exact ⟨b, off, h1, ⟨h2 0 _ rfl, h2 1 _ rfl, h2 2 _ rfl, h2 3 _ rfl, h2 4 _ rfl, h2 5 _ rfl⟩, h3⟩
def isK (n : Nat) : Bool := decide (1 ≤ n) && decide (n ≤ 4096)
def wrongF (f : Fl) : Bool := decide (f.no < 1) || decide (72057594037927935 < f.seq) || decide (f.size < 0) || decide (16777216 < f.size) || decide (f.ents < 1) || decide (16777216 < f.ents) || !isK f.least.length || !isK f.most.length || decide (0 < cmpB f.least f.most)
theorem isKey_any (a : Option Addr) (n c : Nat) (w : World) : Calls Tryz.prog 78 #[.slice a n c] w fun e w' => e = .returned (.bool (isK n)) ∧ w' = w := by
  by_cases h1 : (1 : Int) ≤ n
  · go_enter Tryz.func78, Tryz.ntmps78
    go_wp2_with fail
    go_ret
    exact ⟨congrArg Ending.returned (congrArg Value.bool (Bool.eq_iff_iff.2 (by unfold isK; simp; omega))), rfl⟩
  · go_enter Tryz.func78, Tryz.ntmps78
    go_wp2_with fail
    go_ret
    exact ⟨congrArg Ending.returned (congrArg Value.bool (Bool.eq_iff_iff.2 (by unfold isK; simp; omega))), rfl⟩
theorem isWrongFile_any (x : Tf) (w : World) (h : FB w x) : Calls Tryz.prog 55 #[x.agg] w fun e w' => e = .returned (.bool (wrongF x.f)) ∧ Turns (fun _ => False) w w' := by
  obtain ⟨la, lc, ma, mc, ⟨no, sz, ls, ms, en, sq⟩⟩ := x
  have H := hide h
  have TA := hide ((Turns.refl (fun _ => False) w).alloc (.cells #[.int .u64 (no : Nat), .int .i64 sz, .slice la ls.length lc, .slice ma ms.length mc, .int .i64 en, .int .u64 (sq : Nat)] 49))
  clear h
  unfold Tf.agg
  simp only
  by_cases h0 : no < 1
  · have i0 : (no : Int) < 1 := by omega
    go_enter Tryz.func55, Tryz.ntmps55
    go_wp2_with fail
    go_ret
    exact ⟨congrArg Ending.returned (congrArg Value.bool (by simp [wrongF, h0])), TA.out⟩
  have i0 : ¬ (no : Int) < 1 := by omega
  by_cases h1 : 72057594037927935 < sq
  · have i1 : (72057594037927935 : Int) < sq := by omega
    go_enter Tryz.func55, Tryz.ntmps55
    go_wp2_with fail
    go_ret
    exact ⟨congrArg Ending.returned (congrArg Value.bool (by simp [wrongF, h1])), TA.out⟩
  have i1 : ¬ (72057594037927935 : Int) < sq := by omega
  by_cases h2 : sz < 0
  · skip
    go_enter Tryz.func55, Tryz.ntmps55
    go_wp2_with fail
    go_ret
    exact ⟨congrArg Ending.returned (congrArg Value.bool (by simp [wrongF, h2])), TA.out⟩
  by_cases h3 : 16777216 < sz
  · skip
    go_enter Tryz.func55, Tryz.ntmps55
    go_wp2_with fail
    go_ret
    exact ⟨congrArg Ending.returned (congrArg Value.bool (by simp [wrongF, h3])), TA.out⟩
  by_cases h4 : en < 1
  · skip
    go_enter Tryz.func55, Tryz.ntmps55
    go_wp2_with fail
    go_ret
    exact ⟨congrArg Ending.returned (congrArg Value.bool (by simp [wrongF, h4])), TA.out⟩
  by_cases h5 : 16777216 < en
  · skip
    go_enter Tryz.func55, Tryz.ntmps55
    go_wp2_with fail
    go_ret
    exact ⟨congrArg Ending.returned (congrArg Value.bool (by simp [wrongF, h5])), TA.out⟩
  cases k1 : isK ls.length with
  | false =>
    go_enter Tryz.func55, Tryz.ntmps55
    go_wp2_with fail
    refine (isKey_any la ls.length lc _).mono ?_
    rintro e w1 ⟨rfl, rfl⟩
    rw [k1]
    go_wp2_with fail
    go_ret
    exact ⟨congrArg Ending.returned (congrArg Value.bool (by simp [wrongF, k1])), TA.out⟩
  | true =>
    cases k2 : isK ms.length with
    | false =>
      go_enter Tryz.func55, Tryz.ntmps55
      go_wp2_with fail
      refine (isKey_any la ls.length lc _).mono ?_
      rintro e w1 ⟨rfl, rfl⟩
      rw [k1]
      go_wp2_with fail
      refine (isKey_any ma ms.length mc _).mono ?_
      rintro e w2 ⟨rfl, rfl⟩
      rw [k2]
      go_wp2_with fail
      go_ret
      exact ⟨congrArg Ending.returned (congrArg Value.bool (by simp [wrongF, k1, k2])), TA.out⟩
    | true =>
      have CB := hide (compareB_any la ma ls.length ms.length lc mc ls ms _ (H.out.quiet TA.out).1 (H.out.quiet TA.out).2)
      go_enter Tryz.func55, Tryz.ntmps55
      go_wp2_with fail
      refine (isKey_any la ls.length lc _).mono ?_
      rintro e w1 ⟨rfl, rfl⟩
      rw [k1]
      go_wp2_with fail
      refine (isKey_any ma ms.length mc _).mono ?_
      rintro e w2 ⟨rfl, rfl⟩
      rw [k2]
      go_wp2_with fail
      refine CB.out.mono ?_
      rintro e w3 ⟨rfl, rfl⟩
      go_wp2_with fail
      go_ret
      exact ⟨congrArg Ending.returned (congrArg Value.bool (by simp [wrongF, k1, k2, h0, h1]; intro h; omega)), TA.out⟩
end Go.Proofs.YtmmcikbedegigaaGreat

/-
  Whether a list of files has one that may not be, or that is too new; whether it is in order.
-/
namespace Go.Proofs.YtmmcikbedegigaaGreat
open Go.RowKit
set_option maxRecDepth 100000
set_option maxHeartbeats 4000000
def wrongT (x : Tf) : Bool := wrongF x.f
def newT (next : Nat) (x : Tf) : Bool := decide (next ≤ x.f.no)
theorem isWrongT_any (x : Tf) (w : World) (h : FB w x) : Calls Tryz.prog 55 #[x.agg] w fun e w' => e = .returned (.bool (wrongT x)) ∧ Turns (fun _ => False) w w' := isWrongFile_any x w h
theorem isTooNew_any (x : Tf) (vp next : Nat) (w : World) (hc : w.cell? ⟨vp, 1, none⟩ = some (.int .u64 (next : Nat))) : Calls Tryz.prog 53 #[x.agg, .pointer (some ⟨vp, 0, none⟩)] w fun e w' => e = .returned (.bool (newT next x)) ∧ Turns (fun _ => False) w w' := by
  obtain ⟨la, lc, ma, mc, ⟨no, sz, ls, ms, en, sq⟩⟩ := x
  have TA := hide ((Turns.refl (fun _ => False) w).alloc (.cells #[.int .u64 (no : Nat), .int .i64 sz, .slice la ls.length lc, .slice ma ms.length mc, .int .i64 en, .int .u64 (sq : Nat)] 49))
  have hc2 := TA.out.cell hc (fun x => x)
  unfold Tf.agg
  simp only
  go_enter Tryz.func53, Tryz.ntmps53
  go_wp2_with fail
  go_ret
  exact ⟨congrArg Ending.returned (congrArg Value.bool (Bool.eq_iff_iff.2 (by simp [newT]))), TA.out⟩
theorem index_wrong (a : Option Addr) (n c : Nat) (l : List Tf) (w : World) (h : Fils w a l) (hn : n = l.length) (hmx : n ≤ 1000000) :
    Calls Tryz.prog 74 #[.slice a n c, .func (.func 55) #[] #[]] w fun e w' => ∃ z : Int, e = .returned (.int .i64 z) ∧ (0 ≤ z ↔ l.any wrongT = true) ∧ Turns (fun _ => False) w w' := by
  have H := hide h
  have HL := hide hn
  have hni : (n : Int) ≤ 1000000 := by omega
  clear h hn
  go_enter Tryz.func74, Tryz.ntmps74
  go_wp2_with fail
  go_loopw [8] (fun i wr => ∃ k : Nat, i = .int .i64 (k : Nat) ∧ k ≤ n ∧ (l.take k).any wrongT = false ∧ Turns (fun _ => False) w wr) (fun i _ => n - (intOf i).toNat)
  case atStart => exact ⟨0, rfl, Nat.zero_le _, rfl, Turns.refl _ _⟩
  case round =>
    obtain ⟨k, rfl, hk, hno, hb⟩ := hrel
    have HNO := hide hno
    have HB := hide hb
    clear hno hb
    by_cases hkn : k < n
    · obtain ⟨x, hx⟩ : ∃ x, l[k]? = some x := ⟨_, List.getElem?_eq_getElem (by have := HL.out; omega)⟩
      obtain ⟨b, off, rfl, h6, hfb⟩ := fc_of (H.out.quiet HB.out) hx
      have i1 : (k : Int) < (n : Int) := by omega
      have i0 : (0 : Int) ≤ (k : Int) := by omega
      have HTK := hide (show (l.take (k + 1)).any wrongT = wrongT x by rw [List.take_add_one, hx, List.any_append, HNO.out]; simp)
      have HANY := hide (show wrongT x = true → l.any wrongT = true from fun e => List.any_eq_true.2 ⟨x, List.mem_of_getElem? hx, e⟩)
      have CC := hide (isWrongT_any x wr hfb)
      obtain ⟨y0, y1, y2, y3, y4, y5⟩ := h6
      unfold Tf.agg at CC
      clear hfb hx
      go_wp2_with fail
      refine CC.out.mono ?_
      rintro e w1 ⟨rfl, t1⟩
      have B1 := hide (HB.out.trans t1)
      clear t1 CC y0 y1 y2 y3 y4 y5
      generalize hq : wrongT x = q at *
      have HQ := hide hq
      clear hq
      cases q
      · go_wp2_with fail
        go_roundw
        case rel => exact ⟨k + 1, by go_num, by omega, HTK.out, B1.out⟩
        case measure => simp [intOf]; omega
      · go_wp2_with fail
        go_ret
        exact ⟨_, rfl, ⟨fun _ => HANY.out trivial, fun _ => by omega⟩, B1.out⟩
    · obtain rfl : k = n := by omega
      have ht : l.take k = l := List.take_of_length_le (by have := HL.out; omega)
      have HT := hide ht
      clear ht
      go_wp2_with fail
      go_ret
      refine ⟨_, rfl, ⟨fun h => by omega, fun h => ?_⟩, HB.out⟩
      have := HNO.out
      rw [HT.out, h] at this
      cases this
theorem contains_wrong (a : Option Addr) (n c : Nat) (l : List Tf) (w : World) (h : Fils w a l) (hn : n = l.length) (hmx : n ≤ 1000000) :
    Calls Tryz.prog 54 #[.slice a n c, .func (.func 55) #[] #[]] w fun e w' => e = .returned (.bool (l.any wrongT)) ∧ Turns (fun _ => False) w w' := by
  have IX := hide (index_wrong a n c l w h hn hmx)
  clear h hn
  go_enter Tryz.func54, Tryz.ntmps54
  go_wp2_with fail
  refine IX.out.mono ?_
  rintro e w1 ⟨z, rfl, hz, t1⟩
  have HZ := hide hz
  have B1 := hide t1
  clear hz t1 IX
  go_wp2_with fail
  go_ret
  refine ⟨congrArg Ending.returned (congrArg Value.bool (Bool.eq_iff_iff.2 ?_)), B1.out⟩
  rw [← HZ.out]
  simp
theorem index_new (a : Option Addr) (n c : Nat) (l : List Tf) (vp next : Nat) (w : World) (h : Fils w a l) (hn : n = l.length) (hmx : n ≤ 1000000) (hv : w.cell? ⟨vp, 1, none⟩ = some (.int .u64 (next : Nat))) :
    Calls Tryz.prog 74 #[.slice a n c, .func (.func 53) #[] #[.pointer (some ⟨vp, 0, none⟩)]] w fun e w' => ∃ z : Int, e = .returned (.int .i64 z) ∧ (0 ≤ z ↔ l.any (newT next) = true) ∧ Turns (fun _ => False) w w' := by
  have H := hide h
  have HL := hide hn
  have hni : (n : Int) ≤ 1000000 := by omega
  clear h hn
  go_enter Tryz.func74, Tryz.ntmps74
  go_wp2_with fail
  go_loopw [8] (fun i wr => ∃ k : Nat, i = .int .i64 (k : Nat) ∧ k ≤ n ∧ (l.take k).any (newT next) = false ∧ Turns (fun _ => False) w wr) (fun i _ => n - (intOf i).toNat)
  case atStart => exact ⟨0, rfl, Nat.zero_le _, rfl, Turns.refl _ _⟩
  case round =>
    obtain ⟨k, rfl, hk, hno, hb⟩ := hrel
    have HNO := hide hno
    have HB := hide hb
    clear hno hb
    by_cases hkn : k < n
    · obtain ⟨x, hx⟩ : ∃ x, l[k]? = some x := ⟨_, List.getElem?_eq_getElem (by have := HL.out; omega)⟩
      obtain ⟨b, off, rfl, h6, hfb⟩ := fc_of (H.out.quiet HB.out) hx
      have i1 : (k : Int) < (n : Int) := by omega
      have i0 : (0 : Int) ≤ (k : Int) := by omega
      have HTK := hide (show (l.take (k + 1)).any (newT next) = (newT next) x by rw [List.take_add_one, hx, List.any_append, HNO.out]; simp)
      have HANY := hide (show (newT next) x = true → l.any (newT next) = true from fun e => List.any_eq_true.2 ⟨x, List.mem_of_getElem? hx, e⟩)
      have CC := hide (isTooNew_any x vp next wr (HB.out.cell hv (fun x => x)))
      obtain ⟨y0, y1, y2, y3, y4, y5⟩ := h6
      unfold Tf.agg at CC
      clear hfb hx
      go_wp2_with fail
      refine CC.out.mono ?_
      rintro e w1 ⟨rfl, t1⟩
      have B1 := hide (HB.out.trans t1)
      clear t1 CC y0 y1 y2 y3 y4 y5
      generalize hq : (newT next) x = q at *
      have HQ := hide hq
      clear hq
      cases q
      · go_wp2_with fail
        go_roundw
        case rel => exact ⟨k + 1, by go_num, by omega, HTK.out, B1.out⟩
        case measure => simp [intOf]; omega
      · go_wp2_with fail
        go_ret
        exact ⟨_, rfl, ⟨fun _ => HANY.out trivial, fun _ => by omega⟩, B1.out⟩
    · obtain rfl : k = n := by omega
      have ht : l.take k = l := List.take_of_length_le (by have := HL.out; omega)
      have HT := hide ht
      clear ht
      go_wp2_with fail
      go_ret
      refine ⟨_, rfl, ⟨fun h => by omega, fun h => ?_⟩, HB.out⟩
      have := HNO.out
      rw [HT.out, h] at this
      cases this
theorem contains_new (a : Option Addr) (n c : Nat) (l : List Tf) (vp next : Nat) (w : World) (h : Fils w a l) (hn : n = l.length) (hmx : n ≤ 1000000) (hv : w.cell? ⟨vp, 1, none⟩ = some (.int .u64 (next : Nat))) :
    Calls Tryz.prog 54 #[.slice a n c, .func (.func 53) #[] #[.pointer (some ⟨vp, 0, none⟩)]] w fun e w' => e = .returned (.bool (l.any (newT next))) ∧ Turns (fun _ => False) w w' := by
  have IX := hide (index_new a n c l vp next w h hn hmx hv)
  clear h hn
  go_enter Tryz.func54, Tryz.ntmps54
  go_wp2_with fail
  refine IX.out.mono ?_
  rintro e w1 ⟨z, rfl, hz, t1⟩
  have HZ := hide hz
  have B1 := hide t1
  clear hz t1 IX
  go_wp2_with fail
  go_ret
  refine ⟨congrArg Ending.returned (congrArg Value.bool (Bool.eq_iff_iff.2 ?_)), B1.out⟩
  rw [← HZ.out]
  simp
def aheadF (lev : Nat) (a b : Fl) : Bool := if lev = 0 then decide (a.no < b.no) else decide (cmpB a.most b.least < 0)
theorem isAhead_any (lev : Nat) (x y : Tf) (w : World) (h : FB w x) (h' : FB w y) : Calls Tryz.prog 79 #[.int .i64 (lev : Nat), x.agg, y.agg] w fun e w' => e = .returned (.bool (aheadF lev x.f y.f)) ∧ Turns (fun _ => False) w w' := by
  obtain ⟨la, lc, ma, mc, ⟨no, sz, ls, ms, en, sq⟩⟩ := x
  obtain ⟨la', lc', ma', mc', ⟨no', sz', ls', ms', en', sq'⟩⟩ := y
  have TA := hide (((Turns.refl (fun _ => False) w).alloc (.cells #[.int .u64 (no : Nat), .int .i64 sz, .slice la ls.length lc, .slice ma ms.length mc, .int .i64 en, .int .u64 (sq : Nat)] 49)).alloc (.cells #[.int .u64 (no' : Nat), .int .i64 sz', .slice la' ls'.length lc', .slice ma' ms'.length mc', .int .i64 en', .int .u64 (sq' : Nat)] 49))
  have CB := hide (compareB_any ma la' ms.length ls'.length mc lc' ms ls' _ (h.quiet TA.out).2 (h'.quiet TA.out).1)
  unfold Tf.agg
  simp only
  clear h h'
  by_cases hl : lev = 0
  · subst hl
    go_enter Tryz.func79, Tryz.ntmps79
    go_wp2_with fail
    go_ret
    exact ⟨congrArg Ending.returned (congrArg Value.bool (Bool.eq_iff_iff.2 (by simp [aheadF]))), TA.out⟩
  · have hli : ¬ (lev : Int) = 0 := by omega
    go_enter Tryz.func79, Tryz.ntmps79
    go_wp2_with fail
    refine CB.out.mono ?_
    rintro e w1 ⟨rfl, rfl⟩
    go_wp2_with fail
    go_ret
    exact ⟨congrArg Ending.returned (congrArg Value.bool (Bool.eq_iff_iff.2 (by simp [aheadF, hl]))), TA.out⟩
end Go.Proofs.YtmmcikbedegigaaGreat

/-
  Whether the files of a level are in order.
-/
namespace Go.Proofs.YtmmcikbedegigaaGreat
open Go.RowKit
set_option maxRecDepth 100000
set_option maxHeartbeats 4000000
theorem wrapI (z : Int) (h0 : -9223372036854775808 ≤ z) (h1 : z < 9223372036854775808) : IntKind.i64.wrap z = z := by rw [IntKind.wrap_i64]; omega
def ordF (lev : Nat) : List Fl → Bool
  | [] => true
  | [_] => true
  | x :: y :: r => aheadF lev x y && ordF lev (y :: r)
theorem ordF_iff (lev : Nat) : ∀ l : List Fl, ordF lev l = true ↔ ∀ j x y, l[j]? = some x → l[j + 1]? = some y → aheadF lev x y = true
  | [] => by simp [ordF]
  | [_] => by simp [ordF]
  | a :: b :: r => by
    unfold ordF
    rw [Bool.and_eq_true, ordF_iff lev (b :: r)]
    constructor
    · rintro ⟨h1, h2⟩ j x y hx hy
      cases j with
      | zero => simp at hx hy; subst hx hy; exact h1
      | succ j => exact h2 j x y (by simpa using hx) (by simpa using hy)
    · intro h
      exact ⟨h 0 a b rfl rfl, fun j x y hx hy => h (j + 1) x y (by simpa using hx) (by simpa using hy)⟩
def fls (l : List Tf) : List Fl := l.map Tf.f
theorem fls_at {l : List Tf} {k : Nat} {x : Tf} (h : l[k]? = some x) : (fls l)[k]? = some x.f := by simp [fls, h]
theorem inOrder_any (lev : Nat) (a : Option Addr) (n c : Nat) (l : List Tf) (w : World) (h : Fils w a l) (hn : n = l.length) (hmx : n ≤ 1000000) :
    Calls Tryz.prog 56 #[.int .i64 (lev : Nat), .slice a n c] w fun e w' => e = .returned (.bool (ordF lev (fls l))) ∧ Turns (fun _ => False) w w' := by
  have H := hide h
  have HL := hide hn
  have hni : (n : Int) ≤ 1000000 := by omega
  clear h hn
  go_enter Tryz.func56, Tryz.ntmps56
  go_wp2_with fail
  go_loopw [5] (fun i wr => ∃ k : Nat, i = .int .i64 (k : Nat) ∧ 1 ≤ k ∧ k ≤ n + 1 ∧ (∀ j x y, j + 1 < k → (fls l)[j]? = some x → (fls l)[j + 1]? = some y → aheadF lev x y = true) ∧ Turns (fun _ => False) w wr) (fun i _ => n + 1 - (intOf i).toNat)
  case atStart => exact ⟨1, rfl, Nat.le_refl _, by omega, fun j x y hj => by omega, Turns.refl _ _⟩
  case round =>
    obtain ⟨k, rfl, hk1, hk, hno, hb⟩ := hrel
    have HO := hide hno
    have HB := hide hb
    clear hno hb
    by_cases hkn : k < n
    · obtain ⟨p, rfl⟩ : ∃ p, k = p + 1 := ⟨k - 1, by omega⟩
      obtain ⟨x, hx⟩ : ∃ x, l[p]? = some x := ⟨_, List.getElem?_eq_getElem (by have := HL.out; omega)⟩
      obtain ⟨y, hy⟩ : ∃ x, l[p + 1]? = some x := ⟨_, List.getElem?_eq_getElem (by have := HL.out; omega)⟩
      obtain ⟨b, off, rfl, h6, hfb⟩ := fc_of (H.out.quiet HB.out) hx
      obtain ⟨b', off', e', h6', hfb'⟩ := fc_of (H.out.quiet HB.out) hy
      cases e'
      have i1 : ((p + 1 : Nat) : Int) < n := by omega
      have i2 : (0 : Int) ≤ (p : Int) := by omega
      have i3 : (p : Int) < n := by omega
      have i4 : IntKind.i64.wrap (p : Int) = (p : Int) := wrapI _ (by omega) (by omega)
      have i5 : (0 : Int) ≤ ((p + 1 : Nat) : Int) := by omega
      have ep : ((p + 1 : Nat) : Int) - 1 = (p : Int) := by omega
      have t0 : Turns (fun _ => False) wr wr.drew := (Turns.refl _ _).drew
      have HQ := hide (isAhead_any lev x y wr.drew (hfb.quiet t0) (hfb'.quiet t0))
      have HX := hide (fls_at hx)
      have HY := hide (fls_at hy)
      clear hfb hfb' hx hy t0
      obtain ⟨la, lc, ma, mc, ⟨no, sz, ls, ms, en, sq⟩⟩ := x
      obtain ⟨la', lc', ma', mc', ⟨no', sz', ls', ms', en', sq'⟩⟩ := y
      obtain ⟨c0, c1, c2, c3, c4, c5⟩ := h6
      obtain ⟨d0, d1, d2, d3, d4, d5⟩ := h6'
      unfold Tf.agg at HQ
      simp only at *
      generalize hcv : aheadF lev ⟨no, sz, ls, ms, en, sq⟩ ⟨no', sz', ls', ms', en', sq'⟩ = cv at *
      have HCV := hide hcv
      clear hcv
      generalize ls.length = L1 at *
      generalize ms.length = L2 at *
      generalize ls'.length = L3 at *
      generalize ms'.length = L4 at *
      go_wp2_with fail
      go_region_held (fun w' => (w'.cell? ⟨b, off + p * 6, none⟩ = some (.int .u64 (no : Nat)) ∧ w'.cell? ⟨b, off + p * 6 + 1, none⟩ = some (.int .i64 sz) ∧ w'.cell? ⟨b, off + p * 6 + 2, none⟩ = some (.slice la L1 lc) ∧ w'.cell? ⟨b, off + p * 6 + 3, none⟩ = some (.slice ma L2 mc) ∧ w'.cell? ⟨b, off + p * 6 + 4, none⟩ = some (.int .i64 en) ∧ w'.cell? ⟨b, off + p * 6 + 5, none⟩ = some (.int .u64 (sq : Nat))) ∧ w'.cell? ⟨b, off + (p + 1) * 6, none⟩ = some (.int .u64 (no' : Nat)) ∧ w'.cell? ⟨b, off + (p + 1) * 6 + 1, none⟩ = some (.int .i64 sz') ∧ w'.cell? ⟨b, off + (p + 1) * 6 + 2, none⟩ = some (.slice la' L3 lc') ∧ w'.cell? ⟨b, off + (p + 1) * 6 + 3, none⟩ = some (.slice ma' L4 mc') ∧ w'.cell? ⟨b, off + (p + 1) * 6 + 4, none⟩ = some (.int .i64 en') ∧ w'.cell? ⟨b, off + (p + 1) * 6 + 5, none⟩ = some (.int .u64 (sq' : Nat))) (first | (with_reducible exact ⟨⟨f0, f1, f2, f3, f4, f5⟩, g0, g1, g2, g3, g4, g5⟩) | (simp only [World.cell?_drew]; with_reducible exact ⟨⟨c0, c1, c2, c3, c4, c5⟩, d0, d1, d2, d3, d4, d5⟩)) (first
        | (go_at_call 79; refine HQ.out.mono ?_; rintro x w2 ⟨rfl, b2⟩; have t2 := (Turns.refl (fun _ => False) wr).drew.trans b2; have f0 := t2.cell c0 (fun x => x); have f1 := t2.cell c1 (fun x => x); have f2 := t2.cell c2 (fun x => x); have f3 := t2.cell c3 (fun x => x); have f4 := t2.cell c4 (fun x => x); have f5 := t2.cell c5 (fun x => x); have g0 := t2.cell d0 (fun x => x); have g1 := t2.cell d1 (fun x => x); have g2 := t2.cell d2 (fun x => x); have g3 := t2.cell d3 (fun x => x); have g4 := t2.cell d4 (fun x => x); have g5 := t2.cell d5 (fun x => x); have T2 := hide t2; clear t2 b2))
      clear f0 f1 f2 f3 f4 f5 g0 g1 g2 g3 g4 g5
      cases cv
      · go_wp2_with fail
        go_ret
        refine ⟨congrArg Ending.returned (congrArg Value.bool (Eq.symm ?_)), HB.out.trans T2.out⟩
        refine Bool.eq_false_iff.2 fun q => ?_
        have := (ordF_iff _ _).1 q p _ _ HX.out HY.out
        rw [HCV.out] at this
        cases this
      · go_wp2_with fail
        go_roundw
        case rel =>
          refine ⟨p + 2, by go_num, by omega, by omega, fun j x y hj hx hy => ?_, HB.out.trans T2.out⟩
          by_cases hjp : j = p
          · subst hjp
            rw [HX.out] at hx
            rw [HY.out] at hy
            cases hx; cases hy
            exact HCV.out
          · exact HO.out j x y (by omega) hx hy
        case measure => simp [intOf]; omega
    · have i1 : ¬ (k : Int) < n := by omega
      go_wp2_with fail
      go_ret
      refine ⟨congrArg Ending.returned (congrArg Value.bool (Eq.symm ?_)), HB.out⟩
      refine (ordF_iff _ _).2 fun j x y hx hy => HO.out j x y ?_ hx hy
      have := (List.getElem?_eq_some_iff.1 hy).1
      have h9 := HL.out
      simp only [fls, List.length_map] at this
      omega
end Go.Proofs.YtmmcikbedegigaaGreat

/-
  Numbers, pieces and writes behind bytes of one's own.
-/
namespace Go.Proofs.YtmmcikbedegigaaGreat
open Go.RowKit
set_option maxRecDepth 100000
set_option maxHeartbeats 4000000
theorem number_nil (x : Nat) (hx : x < 18446744073709551616) (w : World) : Calls Tryz.prog 62 #[.slice none 0 0, .int .u64 x] w fun e w' => ∃ g c, e = .returned (.slice (some ⟨g, 0, none⟩) (short x).length c) ∧ w.heap.size ≤ g ∧ RowB w' g c (short x) ∧ Below w.heap.size w w' := by
  have hz := szN_le x
  go_enter Tryz.func62, Tryz.ntmps62
  go_wp2_with fail
  refine (size_any x hx _).mono ?_
  rintro e w1 ⟨rfl, rfl⟩
  obtain ⟨k, hk⟩ : ∃ k : Nat, szN x = (k : Int) := ⟨(szN x).toNat, by omega⟩
  rw [hk] at hz ⊢
  clear hk
  go_wp2_with fail
  refine (extend_nil k (by omega) _).mono ?_
  rintro e w2 ⟨g, rfl, hg, hrow, hb⟩
  go_wp2_with fail
  refine (appendShort_any g k [] 0 rfl x hx _ (Nat.zero_le _) hrow (by omega)).mono ?_
  rintro e w3 ⟨g2, c2, rfl, hc2, hrow2, hb2⟩
  rw [Nat.zero_add]
  have HR := hide hrow2
  have HG := hide (hb2.ge hb.size hg)
  have HB := hide (hb.trans (hb2.below hb.size hg))
  clear hrow2 hb2 hb hrow hc2
  go_wp2_with fail
  go_ret
  exact ⟨g2, c2, rfl, HG.out, HR.out, HB.out⟩
theorem pieceB_len (p : List (BitVec 8)) : (pieceB p).length = (short p.length).length + p.length := by simp [pieceB]
theorem writeB_len1 (key val : List (BitVec 8)) : (writeB (1, key, val)).length = 1 + (pieceB key).length + (pieceB val).length := by simp [writeB]; omega
end Go.Proofs.YtmmcikbedegigaaGreat
