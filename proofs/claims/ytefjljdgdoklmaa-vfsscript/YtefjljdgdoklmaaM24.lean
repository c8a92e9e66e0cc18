import Derived.Test.YtefjljdgdoklmaaM23
import Derived.Deep.RegionHeld
import Derived.Deep.RegionHeldLaw
import Derived.Test.YtefjljdgdoklmaaM01
/-
  A call of both file systems, as the law makes it: SyncDir, Fuse.
-/
namespace Go.Proofs.Ytefjljdgdoklmaa
open Go.RowKit Go.Maps Go.Sort
section
variable {B i f q : Nat} {w : World} {d : Disk} {r : RDisk} {A C : Nat → Prop} {rho : Nat → Nat}
set_option maxRecDepth 100000 in
set_option maxHeartbeats 4000000 in
theorem act_3 (hm : Mem2 B f q w d r A C) (hB : B ≤ w.heap.size) (hi : Inv i rho d r) (hb : i ≤ 900) (kind N M E : Int) (s t : ByteArray) (ba ka : Option Addr) (bn bc kn kc : Nat) (hp : pickZ kind 12 = 3) :
    Calls Try.prog 25 #[.pointer (some ⟨f, 0, none⟩), .pointer (some ⟨q, 0, none⟩), .agg #[.int .i64 kind, .string s, .string t, .slice ba bn bc, .int .i64 N, .int .i64 M, .int .i64 E, .slice ka kn kc]] w fun e w' => e = .returned (.bool true) ∧ Fin B i f q A C w w' := by
  have hrow : (w.alloc (.cells #[.int .i64 kind, .string s, .string t, .slice ba bn bc, .int .i64 N, .int .i64 M, .int .i64 E, .slice ka kn kc] 49)).heap[w.heap.size]? = some (.cells #[.int .i64 kind, .string s, .string t, .slice ba bn bc, .int .i64 N, .int .i64 M, .int .i64 E, .slice ka kn kc] 49 (0, 0)) := heap_alloc_new w _
  have HR := hide hrow
  have HG := hide hm.alone
  have HT := hide ((Turns.refl (AC A C) w).alloc (.cells #[.int .i64 kind, .string s, .string t, .slice ba bn bc, .int .i64 N, .int .i64 M, .int .i64 E, .slice ka kn kc] 49))
  have HM := hide (hm.quiet ((Turns.refl _ w).alloc (.cells #[.int .i64 kind, .string s, .string t, .slice ba bn bc, .int .i64 N, .int .i64 M, .int .i64 E, .slice ka kn kc] 49)))
  have HB := hide hB
  have HP := hide hp
  have HS0 := hide hm.la
  have HS1 := hide hm.lc
  clear hrow hm hp hB
  go_enter Try.func25, Try.ntmps25
  go_wp2_with fail
  have hsz : (w.alloc (.cells #[.int .i64 kind, .string s, .string t, .slice ba bn bc, .int .i64 N, .int .i64 M, .int .i64 E, .slice ka kn kc] 49)).heap.size = w.heap.size + 1 := by simp
  have HB1 := hide (show B ≤ (w.alloc (.cells #[.int .i64 kind, .string s, .string t, .slice ba bn bc, .int .i64 N, .int .i64 M, .int .i64 E, .slice ka kn kc] 49)).heap.size by rw [hsz]; have := HB.out; omega)
  clear hsz
  generalize hw0 : (w.alloc (.cells #[.int .i64 kind, .string s, .string t, .slice ba bn bc, .int .i64 N, .int .i64 M, .int .i64 E, .slice ka kn kc] 49)) = w0 at *
  generalize hg0 : w.heap.size = g at *
  clear hw0
  refine (pick_any kind w0).mono ?_
  rintro e w1 ⟨rfl, hw1⟩
  subst hw1
  rw [HP.out]
  have HC := hide (syncdir_pair HM.out HB1.out hi hb)
  go_wp2_with fail
  refine HC.out.mono ?_
  rintro e w2 ⟨z, rfl, t2, c2⟩
  have C2 := hide c2
  clear t2 c2
  go_wp2_with fail
  refine C2.out.mono ?_
  rintro e w3 ⟨rfl, c3⟩
  have C3 := hide c3
  clear c3
  go_wp2_with fail
  go_ret
  exact ⟨by simp, fin_from HT.out C3.out⟩
set_option maxRecDepth 100000 in
set_option maxHeartbeats 4000000 in
theorem act_7 (hm : Mem2 B f q w d r A C) (hB : B ≤ w.heap.size) (hi : Inv i rho d r) (kind N M E : Int) (s t : ByteArray) (ba ka : Option Addr) (bn bc kn kc : Nat) (hN : N ≤ 9223372036854775807) (hp : pickZ kind 12 = 7) :
    Calls Try.prog 25 #[.pointer (some ⟨f, 0, none⟩), .pointer (some ⟨q, 0, none⟩), .agg #[.int .i64 kind, .string s, .string t, .slice ba bn bc, .int .i64 N, .int .i64 M, .int .i64 E, .slice ka kn kc]] w fun e w' => e = .returned (.bool true) ∧ Fin B i f q A C w w' := by
  have hrow : (w.alloc (.cells #[.int .i64 kind, .string s, .string t, .slice ba bn bc, .int .i64 N, .int .i64 M, .int .i64 E, .slice ka kn kc] 49)).heap[w.heap.size]? = some (.cells #[.int .i64 kind, .string s, .string t, .slice ba bn bc, .int .i64 N, .int .i64 M, .int .i64 E, .slice ka kn kc] 49 (0, 0)) := heap_alloc_new w _
  have HR := hide hrow
  have HG := hide hm.alone
  have HT := hide ((Turns.refl (AC A C) w).alloc (.cells #[.int .i64 kind, .string s, .string t, .slice ba bn bc, .int .i64 N, .int .i64 M, .int .i64 E, .slice ka kn kc] 49))
  have HM := hide (hm.quiet ((Turns.refl _ w).alloc (.cells #[.int .i64 kind, .string s, .string t, .slice ba bn bc, .int .i64 N, .int .i64 M, .int .i64 E, .slice ka kn kc] 49)))
  have HB := hide hB
  have HP := hide hp
  have HS0 := hide hm.la
  have HS1 := hide hm.lc
  clear hrow hm hp hB
  go_enter Try.func25, Try.ntmps25
  go_wp2_with fail
  have hsz : (w.alloc (.cells #[.int .i64 kind, .string s, .string t, .slice ba bn bc, .int .i64 N, .int .i64 M, .int .i64 E, .slice ka kn kc] 49)).heap.size = w.heap.size + 1 := by simp
  have HB1 := hide (show B ≤ (w.alloc (.cells #[.int .i64 kind, .string s, .string t, .slice ba bn bc, .int .i64 N, .int .i64 M, .int .i64 E, .slice ka kn kc] 49)).heap.size by rw [hsz]; have := HB.out; omega)
  clear hsz
  generalize hw0 : (w.alloc (.cells #[.int .i64 kind, .string s, .string t, .slice ba bn bc, .int .i64 N, .int .i64 M, .int .i64 E, .slice ka kn kc] 49)) = w0 at *
  generalize hg0 : w.heap.size = g at *
  clear hw0
  refine (pick_any kind w0).mono ?_
  rintro e w1 ⟨rfl, hw1⟩
  subst hw1
  rw [HP.out]
  have a4 : w1.cell? ⟨g, 4, none⟩ = some (.int .i64 N) := cell_of_row w1 g 4 _ 49 (0, 0) HR.out
  have HC := hide (fuse_pair HM.out HB1.out hi N hN)
  go_wp2_with fail
  refine HC.out.mono ?_
  rintro e w2 ⟨⟨v, rfl⟩, t2, c2⟩
  have a4 := t2.cell a4 HG.out
  have C2 := hide c2
  clear t2 c2
  go_wp2_with fail
  refine C2.out.mono ?_
  rintro e w3 ⟨rfl, c3⟩
  have C3 := hide c3
  clear c3
  go_wp2_with fail
  go_ret
  exact ⟨by simp, fin_from HT.out C3.out⟩
end
end Go.Proofs.Ytefjljdgdoklmaa

/-
  Rows of numbers of one's own.
-/
namespace Go.Proofs.Ytefjljdgdoklmaa
open Go.RowKit Go.Maps
theorem t3_size : Try.t3.size = 1 := by kernel_rfl
theorem t3_bytes : Try.t3.bytes = 8 := by kernel_rfl
theorem t3_info : Try.prog.info? 3 = some Try.t3 := by kernel_rfl
theorem t3_zero : Try.t3.zero = some (.int .i64 0) := by kernel_rfl
def intCells (ks : List Int) : List Value := ks.map fun z => .int .i64 z
def IRow (w : World) (B : Nat) (v : Value) (ks : List Int) : Prop :=
  (ks = [] ∧ v = .slice none 0 0) ∨ ∃ g c n : Nat, v = .slice (some ⟨g, 0, none⟩) n c ∧ n = ks.length ∧ n ≤ c ∧ B ≤ g ∧ RowC w g 3 c (intCells ks)
theorem IRow.keep {S : Nat → Prop} {w w' : World} {B : Nat} {v : Value} {ks : List Int} (h : IRow w B v ks) (t : Turns S w w') (hn : ∀ k, inRow v k → ¬ S k) : IRow w' B v ks := by
  rcases h with h | ⟨g, c, n, h1, h2, h3, h4, cs, h5, h6, h7⟩
  · exact .inl h
  · exact .inr ⟨g, c, n, h1, h2, h3, h4, cs, t.heap h5 (hn g ⟨n, c, h1⟩), h6, h7⟩
theorem IRow.row {w : World} {B : Nat} {v : Value} {ks : List Int} (h : IRow w B v ks) {k : Nat} (hk : inRow v k) : B ≤ k ∧ k < w.heap.size := by
  obtain ⟨n', c', e⟩ := hk
  rcases h with ⟨_, rfl⟩ | ⟨g, c, n, rfl, _, _, hB, cs, h1, _⟩
  · cases e
  · cases e; exact ⟨hB, lt_of_heap h1⟩
theorem ints_of_row {w : World} {g c : Nat} {ks : List Int} (h : RowC w g 3 c (intCells ks)) (n : Nat) (hn : n = ks.length) : Ints w (some ⟨g, 0, none⟩) n ks := by
  obtain ⟨cs, h1, h2, h3⟩ := h
  refine ⟨hn, fun k hk => ⟨g, 0, rfl, ?_⟩⟩
  have hk' : k < ks.length := by omega
  have h4 := h3 k (by simp [intCells, hk'])
  rw [Nat.zero_add]
  have : cs[k]? = some (.int .i64 (ks.getD k 0)) := by
    rw [h4]
    simp [intCells, hk', List.getD]
  exact (cell_of_row w g k cs 3 (0, 0) h1).trans this
theorem IRow.ints {w : World} {B : Nat} {v : Value} {ks : List Int} (h : IRow w B v ks) : ∃ a n c, v = .slice a n c ∧ Ints w a n ks ∧ ∀ p o, a = some ⟨p, o, none⟩ → B ≤ p ∧ p < w.heap.size := by
  rcases h with ⟨rfl, rfl⟩ | ⟨g, c, n, rfl, h2, _, hB, h5⟩
  · exact ⟨none, 0, 0, rfl, ⟨rfl, fun k hk => by omega⟩, fun p o e => by cases e⟩
  · refine ⟨_, n, c, rfl, ints_of_row h5 n h2, fun p o e => ?_⟩
    cases e
    obtain ⟨cs, h1, _⟩ := h5
    exact ⟨hB, lt_of_heap h1⟩
theorem append_int (w : World) (B : Nat) (v : Value) (ks : List Int) (h : IRow w B v ks) (hB : B ≤ w.heap.size) (hlen : ks.length ≤ 1000000000) (z : Int) (a : Addr) (c : Nat) (ha : w.cell? a = some (.int .i64 z)) :
    ∃ (g' n' c' : Nat) (w' : World), (∀ ty, (Builtin.append_ #[47, 47] ty #[v, .slice (some a) 1 c]).run Try.prog w = .ok (.slice (some ⟨g', 0, none⟩) n' c') w') ∧ IRow w' B (.slice (some ⟨g', 0, none⟩) n' c') (ks ++ [z]) ∧ Turns (inRow v) w w' ∧ Below B w w' := by
  have hsrc : Src Try.prog Try.t3.size 47 (.slice (some a) 1 c) 1 [.int .i64 z] w := Src.ofSlice w Try.underlying47 a 1 c _ (by rw [t3_size]; rfl) (fun j u hu => by
    cases j with
    | zero => cases hu; exact ha
    | succ j => cases hu) (fun u hu => by
    simp only [List.mem_cons, List.not_mem_nil, or_false] at hu
    rw [hu]; rfl)
  obtain ⟨base, sLen, sCap, rfl, hsl, hbase⟩ : ∃ (base : Option Addr) (sLen sCap : Nat), v = .slice base sLen sCap ∧ sLen = ks.length ∧ ((base = none ∧ sLen = 0 ∧ sCap = 0 ∧ 0 < 1) ∨ ∃ g, base = some ⟨g, 0, none⟩ ∧ B ≤ g ∧ sLen ≤ sCap ∧ RowC w g 3 (sCap * Try.t3.size) (intCells ks)) := by
    rcases h with ⟨rfl, rfl⟩ | ⟨g, c, n, rfl, rfl, h3, h4, h5⟩
    · exact ⟨none, 0, 0, rfl, rfl, .inl ⟨rfl, rfl, rfl, by omega⟩⟩
    · exact ⟨_, _, _, rfl, rfl, .inr ⟨g, rfl, h4, h3, by rw [t3_size, Nat.mul_one]; exact h5⟩⟩
  obtain ⟨g, cp, w', hr, hg, hrow, hb, hcp, _, _, hkeep⟩ := append_gen2 (P := Try.prog) w B 47 3 Try.t3 _ Try.underlying47 t3_info t3_zero rfl base sLen sCap (intCells ks) (by rw [t3_size, hsl]; simp [intCells]) _ 1 _ hsrc hB hbase (by rw [t3_bytes]; omega) (by omega)
  refine ⟨g, _, cp, w', hr, .inr ⟨g, cp, _, rfl, by simp [hsl], hcp, hg, ?_⟩, ⟨hb.os, hb.tape, hb.output, hb.size, fun k hk hn => hkeep k hk fun e => hn ⟨sLen, sCap, by rw [e]⟩⟩, hb⟩
  rw [t3_size, Nat.mul_one] at hrow
  rw [show intCells (ks ++ [z]) = intCells ks ++ [.int .i64 z] by simp [intCells]]
  exact hrow
/-- Numbers, copied onto a new slice. -/
theorem copy_ints (w : World) (ka : Option Addr) (kn kc : Nat) (ks : List Int) (hI : Ints w ka kn ks) (hn : kn ≤ 1000) :
    ∃ (g c : Nat) (w' : World), (∀ ty, (Builtin.append_ #[47, 47] ty #[.slice (some ⟨w.heap.size, 0, none⟩) 0 0, .slice ka kn kc]).run Try.prog (w.alloc (.cells #[] 3)) = .ok (.slice (some ⟨g, 0, none⟩) kn c) w') ∧ Ints w' (some ⟨g, 0, none⟩) kn ks ∧ w.heap.size ≤ g ∧ Turns (fun _ => False) w w' := by
  obtain ⟨hl, hI⟩ := hI
  have ta : Turns (fun _ => False) w (w.alloc (.cells #[] 3)) := (Turns.refl _ w).alloc _
  have hsrc : Src Try.prog Try.t3.size 47 (.slice ka kn kc) kn (intCells ks) (w.alloc (.cells #[] 3)) := by
    cases ka with
    | none =>
      have hz : kn = 0 := by
        rcases Nat.eq_zero_or_pos kn with h0 | h0
        · exact h0
        · obtain ⟨_, _, ha, _⟩ := hI 0 h0; cases ha
      subst hz
      obtain rfl : ks = [] := List.eq_nil_of_length_eq_zero hl.symm
      exact Src.ofNil _ Try.underlying47 kc
    | some ad =>
      refine Src.ofSlice _ Try.underlying47 ad _ kc _ (by simp [intCells, t3_size, hl]) (fun j u hu => ?_) (fun u hu => ?_)
      · have hj : j < ks.length := by
          rcases Nat.lt_or_ge j ks.length with hl | hl
          · exact hl
          · rw [List.getElem?_eq_none (by simpa [intCells] using hl)] at hu; cases hu
        obtain ⟨b, off, ha, hc⟩ := hI j (by omega)
        obtain rfl : ad = ⟨b, off, none⟩ := by simpa using ha
        rw [Go.WideShapes.add_plain, ta.cell hc (fun x => x)]
        simpa [intCells, hj, List.getD] using hu
      · obtain ⟨b, _, rfl⟩ := List.mem_map.1 hu
        rfl
  obtain ⟨g, cp, w', hr, hg, hrow, hb, hcp, _⟩ := append_gen2 (P := Try.prog) (w.alloc (.cells #[] 3)) w.heap.size 47 3 Try.t3 _ Try.underlying47 t3_info t3_zero rfl (some ⟨w.heap.size, 0, none⟩) 0 0 [] (by simp) _ kn _ hsrc (by simp) (.inr ⟨_, rfl, Nat.le_refl _, Nat.le_refl _, #[], heap_alloc_new w _, by simp, fun k hk => by simp at hk⟩) (by rw [t3_bytes]; omega) (by omega)
  rw [t3_size, Nat.mul_one, List.nil_append] at hrow
  refine ⟨g, cp, w', fun ty => by have := hr ty; rwa [Nat.zero_add] at this, ints_of_row hrow kn hl, hg, ?_⟩
  have hbA : Below w.heap.size w (w.alloc (.cells #[] 3)) := (Below.refl _ _).alloc (Nat.le_refl _) _
  exact Turns.of_below (hbA.trans hb) _
end Go.Proofs.Ytefjljdgdoklmaa

/-
  A call of both file systems, as the law makes it: Crash.
-/
namespace Go.Proofs.Ytefjljdgdoklmaa
open Go.RowKit Go.Maps Go.Sort
section
variable {B i f q : Nat} {w : World} {d : Disk} {r : RDisk} {A C : Nat → Prop} {rho : Nat → Nat}
set_option maxRecDepth 100000 in
set_option maxHeartbeats 4000000 in
theorem act_9 (hm : Mem2 B f q w d r A C) (hB : B ≤ w.heap.size) (hi : Inv i rho d r) (hb : i ≤ 900) (kind N M E : Int) (s t : ByteArray) (ba ka : Option Addr) (bn bc kn kc : Nat) (ks : List Int) (hI : Ints w ka kn ks) (hIa : ∀ a o, ka = some ⟨a, o, none⟩ → 0 < kn → a < B) (hks : ∀ z, z ∈ ks → z ≤ 9223372036854775807 ∧ -9223372036854775808 ≤ z) (hkn : kn ≤ 1000) (n1 : N ≤ 9223372036854775807) (n2 : -9223372036854775808 ≤ N) (hp : pickZ kind 12 = 9) :
    Calls Try.prog 25 #[.pointer (some ⟨f, 0, none⟩), .pointer (some ⟨q, 0, none⟩), .agg #[.int .i64 kind, .string s, .string t, .slice ba bn bc, .int .i64 N, .int .i64 M, .int .i64 E, .slice ka kn kc]] w fun e w' => e = .returned (.bool true) ∧ Fin B i f q A C w w' := by
  have hrow : (w.alloc (.cells #[.int .i64 kind, .string s, .string t, .slice ba bn bc, .int .i64 N, .int .i64 M, .int .i64 E, .slice ka kn kc] 49)).heap[w.heap.size]? = some (.cells #[.int .i64 kind, .string s, .string t, .slice ba bn bc, .int .i64 N, .int .i64 M, .int .i64 E, .slice ka kn kc] 49 (0, 0)) := heap_alloc_new w _
  have HR := hide hrow
  have HG := hide hm.alone
  have HT := hide ((Turns.refl (AC A C) w).alloc (.cells #[.int .i64 kind, .string s, .string t, .slice ba bn bc, .int .i64 N, .int .i64 M, .int .i64 E, .slice ka kn kc] 49))
  have HM := hide (hm.quiet ((Turns.refl _ w).alloc (.cells #[.int .i64 kind, .string s, .string t, .slice ba bn bc, .int .i64 N, .int .i64 M, .int .i64 E, .slice ka kn kc] 49)))
  have HB := hide hB
  have HP := hide hp
  have HS0 := hide hm.la
  have HS1 := hide hm.lc
  have HI := hide (hI.keep ((Turns.refl (fun _ => False) w).alloc (.cells #[.int .i64 kind, .string s, .string t, .slice ba bn bc, .int .i64 N, .int .i64 M, .int .i64 E, .slice ka kn kc] 49)) (fun _ _ _ x => x))
  clear hrow hm hp hB hI
  go_enter Try.func25, Try.ntmps25
  go_wp2_with fail
  have hsz : (w.alloc (.cells #[.int .i64 kind, .string s, .string t, .slice ba bn bc, .int .i64 N, .int .i64 M, .int .i64 E, .slice ka kn kc] 49)).heap.size = w.heap.size + 1 := by simp
  have HB1 := hide (show B ≤ (w.alloc (.cells #[.int .i64 kind, .string s, .string t, .slice ba bn bc, .int .i64 N, .int .i64 M, .int .i64 E, .slice ka kn kc] 49)).heap.size by rw [hsz]; have := HB.out; omega)
  clear hsz
  generalize hw0 : (w.alloc (.cells #[.int .i64 kind, .string s, .string t, .slice ba bn bc, .int .i64 N, .int .i64 M, .int .i64 E, .slice ka kn kc] 49)) = w0 at *
  generalize hg0 : w.heap.size = g at *
  clear hw0
  refine (pick_any kind w0).mono ?_
  rintro e w1 ⟨rfl, hw1⟩
  subst hw1
  rw [HP.out]
  have a4 : w1.cell? ⟨g, 4, none⟩ = some (.int .i64 N) := cell_of_row w1 g 4 _ 49 (0, 0) HR.out
  have a7 : w1.cell? ⟨g, 7, none⟩ = some (.slice ka kn kc) := cell_of_row w1 g 7 _ 49 (0, 0) HR.out
  have A4 := hide a4
  have A7 := hide a7
  have HC := hide (crash_pair HM.out HB1.out hi hb N n1 n2 ka kn kc ks HI.out (fun a o e h0 => Nat.lt_of_lt_of_le (hIa a o e h0) HB1.out) hks)
  go_wp2_with fail
  refine HC.out.mono ?_
  rintro e w2 ⟨⟨v, rfl⟩, t2, c2⟩
  have hng : ¬ C g := fun x => HG.out (.inr x)
  have a4 := t2.cell a4 hng
  have a7 := t2.cell a7 hng
  have HI2 := HI.out.keep0 t2 (fun p o e h0 x => by have h1 := hIa p o e h0; have h2 := (HS1.out p x).1; omega)
  have HI2 := hide HI2
  obtain ⟨gk, ck, w3, hr3, hI3, hg3, t3⟩ := copy_ints w2.drew ka kn kc ks HI2.out hkn
  have hsz2 := t2.size
  have hA3 : ∀ p o, (some ⟨gk, 0, none⟩ : Option Addr) = some ⟨p, o, none⟩ → ¬ A p := fun p o e x => by
    cases e
    have h1 := (HS0.out _ x).2
    have h2 : w2.heap.size ≤ gk := hg3
    have h3 := HT.out.size
    rw [hg0] at h3
    omega
  have C3 := hide (c2 w3 (some ⟨gk, 0, none⟩) ck ((Turns.refl (fun _ => False) w2).drew.trans t3) hI3 hA3)
  have b4 := t3.cell (p := ⟨g, 4, none⟩) (v := .int .i64 N) a4 (fun x => x)
  have b7 := t3.cell (p := ⟨g, 7, none⟩) (v := .slice ka kn kc) a7 (fun x => x)
  have hq := hr3 47
  have R3 := hide hq
  clear t2 c2 hr3 hI3 hg3 t3 hsz2 hA3 hIa hks hq hng
  go_wp2_with fail
  go_region_held_law (fun w' => w'.cell? ⟨g, 4, none⟩ = some (.int .i64 N) ∧ w'.cell? ⟨g, 7, none⟩ = some (.slice ka kn kc)) (first | (with_reducible exact ⟨f4, f7⟩) | (with_reducible exact ⟨b4, b7⟩) | (simp only [World.cell?_drew]; with_reducible exact ⟨a4, a7⟩) | exact ⟨alloc_keep (w := w2.drew) a4 _, alloc_keep (w := w2.drew) a7 _⟩) (first
    | (refine step_append_run rfl (.tmp 141) (.tmp 143) 47 rfl (.slice (some ⟨w2.heap.size, 0, none⟩) 0 0) (.slice ka kn kc) rfl rfl _ _ R3.out 144 rfl ?_; simp only [Act.put, List.setIfInBounds_toArray, List.set_cons_zero, List.set_cons_succ])
    | (go_at_call 11; refine C3.out.mono ?_; rintro e w5 ⟨rfl, c5⟩; have hng5 := HG.out; have f4 := c5.1.cell (p := ⟨g, 4, none⟩) (v := .int .i64 N) A4.out HG.out; have f7 := c5.1.cell (p := ⟨g, 7, none⟩) (v := .slice ka kn kc) A7.out HG.out; have C5 := hide c5; clear c5))
  go_wp2_with fail
  go_ret
  exact ⟨by simp, fin_from HT.out C5.out⟩
end
end Go.Proofs.Ytefjljdgdoklmaa

/-
  A call of both file systems, as the law makes it: Append.
-/
namespace Go.Proofs.Ytefjljdgdoklmaa
open Go.RowKit Go.Maps Go.Sort
section
variable {B i f q : Nat} {w : World} {d : Disk} {r : RDisk} {A C : Nat → Prop} {rho : Nat → Nat}
set_option maxRecDepth 100000 in
set_option maxHeartbeats 4000000 in
theorem act_1 (hm : Mem2 B f q w d r A C) (hB : B ≤ w.heap.size) (hi : Inv i rho d r) (hb : i ≤ 900) (kind N M E : Int) (s t : ByteArray) (ba ka : Option Addr) (bn bc kn kc : Nat) (hs : s.size ≤ 300) (bs : List (BitVec 8)) (hw : Bytes w (.slice ba bn bc) bs) (hba : ∀ p o, ba = some ⟨p, o, none⟩ → 0 < bn → p < B) (hbn : bn ≤ 300) (hp : pickZ kind 12 = 1) :
    Calls Try.prog 25 #[.pointer (some ⟨f, 0, none⟩), .pointer (some ⟨q, 0, none⟩), .agg #[.int .i64 kind, .string s, .string t, .slice ba bn bc, .int .i64 N, .int .i64 M, .int .i64 E, .slice ka kn kc]] w fun e w' => e = .returned (.bool true) ∧ Fin B i f q A C w w' := by
  have hrow : (w.alloc (.cells #[.int .i64 kind, .string s, .string t, .slice ba bn bc, .int .i64 N, .int .i64 M, .int .i64 E, .slice ka kn kc] 49)).heap[w.heap.size]? = some (.cells #[.int .i64 kind, .string s, .string t, .slice ba bn bc, .int .i64 N, .int .i64 M, .int .i64 E, .slice ka kn kc] 49 (0, 0)) := heap_alloc_new w _
  have HR := hide hrow
  have HG := hide hm.alone
  have HT := hide ((Turns.refl (AC A C) w).alloc (.cells #[.int .i64 kind, .string s, .string t, .slice ba bn bc, .int .i64 N, .int .i64 M, .int .i64 E, .slice ka kn kc] 49))
  have HM := hide (hm.quiet ((Turns.refl _ w).alloc (.cells #[.int .i64 kind, .string s, .string t, .slice ba bn bc, .int .i64 N, .int .i64 M, .int .i64 E, .slice ka kn kc] 49)))
  have HB := hide hB
  have HP := hide hp
  have HS0 := hide hm.la
  have HS1 := hide hm.lc
  have HW := hide (hw.keep ((Turns.refl (fun _ => False) w).alloc (.cells #[.int .i64 kind, .string s, .string t, .slice ba bn bc, .int .i64 N, .int .i64 M, .int .i64 E, .slice ka kn kc] 49)) (fun _ _ _ x => x))
  clear hrow hm hp hB hw
  go_enter Try.func25, Try.ntmps25
  go_wp2_with fail
  have hsz : (w.alloc (.cells #[.int .i64 kind, .string s, .string t, .slice ba bn bc, .int .i64 N, .int .i64 M, .int .i64 E, .slice ka kn kc] 49)).heap.size = w.heap.size + 1 := by simp
  have HB1 := hide (show B ≤ (w.alloc (.cells #[.int .i64 kind, .string s, .string t, .slice ba bn bc, .int .i64 N, .int .i64 M, .int .i64 E, .slice ka kn kc] 49)).heap.size by rw [hsz]; have := HB.out; omega)
  clear hsz
  generalize hw0 : (w.alloc (.cells #[.int .i64 kind, .string s, .string t, .slice ba bn bc, .int .i64 N, .int .i64 M, .int .i64 E, .slice ka kn kc] 49)) = w0 at *
  generalize hg0 : w.heap.size = g at *
  clear hw0
  refine (pick_any kind w0).mono ?_
  rintro e w1 ⟨rfl, hw1⟩
  subst hw1
  rw [HP.out]
  have a1 : w1.cell? ⟨g, 1, none⟩ = some (.string s) := cell_of_row w1 g 1 _ 49 (0, 0) HR.out
  have a3 : w1.cell? ⟨g, 3, none⟩ = some (.slice ba bn bc) := cell_of_row w1 g 3 _ 49 (0, 0) HR.out
  have HO := hide (own_any _ bs w1 HW.out (by have := HW.out.len; omega))
  go_wp2_with fail
  refine HO.out.mono ?_
  rintro e w2 ⟨go, co, rfl, hgo, hco, row, b2⟩
  have hnl := HW.out.len
  have TB := hide (Turns.of_below b2 (fun _ => False))
  have a1 := TB.out.cell a1 (fun x => x)
  have a3 := TB.out.cell a3 (fun x => x)
  have hgs : g < w1.heap.size := lt_of_heap HR.out
  have ROW := hide row
  have HL := hide hnl
  rw [← hnl]
  have hoA : ∀ p o, (some ⟨go, 0, none⟩ : Option Addr) = some ⟨p, o, none⟩ → ¬ A p ∧ ¬ C p := fun p o e => by
    cases e
    exact ⟨fun x => by have := (HS0.out _ x).2; omega, fun x => by have := (HS1.out _ x).2; omega⟩
  have hbA : ∀ p o, ba = some ⟨p, o, none⟩ → 0 < bn → ¬ A p ∧ ¬ C p := fun p o e h0 => ⟨fun x => by have := (HS0.out _ x).1; have := hba p o e h0; omega, fun x => by have := (HS1.out _ x).1; have := hba p o e h0; omega⟩
  have TD := hide (TB.out.drew)
  have HC := hide (append_pair (HM.out.quiet TD.out) (Nat.le_trans HB1.out TD.out.size) hi hb s hs (some ⟨go, 0, none⟩) ba bn co bc bs (RowB.bytes (w := w2.drew) ROW.out hnl) (HW.out.keep TD.out (fun _ _ _ x => x)) hbn hoA hbA)
  have hgo0 : ¬ AC A C go := fun x => by
    rcases x with x | x
    · exact (hoA go 0 rfl).1 x
    · exact (hoA go 0 rfl).2 x
  have HGO := hide hgo0
  have HCO := hide (show bn ≤ co by omega)
  have HLT := hide (show go < w2.heap.size by obtain ⟨cs, h1, _⟩ := row; exact lt_of_heap h1)
  have HGW := hide hgo
  clear row hnl hoA hbA hgo0 hgo hco b2 hgs hba
  go_wp2_with fail
  go_region_held (fun w' => w'.cell? ⟨g, 1, none⟩ = some (.string s) ∧ w'.cell? ⟨g, 3, none⟩ = some (.slice ba bn bc)) (first | (with_reducible exact ⟨h1, h3⟩) | (with_reducible exact ⟨f1, f3⟩) | (simp only [World.cell?_drew]; with_reducible exact ⟨a1, a3⟩)) (first
    | (go_at_call 10; refine HC.out.mono ?_; rintro e w3 ⟨z, rfl, t2, c2⟩; have f1 := t2.cell (p := ⟨g, 1, none⟩) (v := .string s) a1 HG.out; have f3 := t2.cell (p := ⟨g, 3, none⟩) (v := .slice ba bn bc) a3 HG.out; have T2 := hide t2; have C2 := hide c2; clear t2 c2)
    | (go_at_call 66; refine C2.out.mono ?_; rintro e w4 ⟨rfl, c3⟩; have h1 := c3.1.cell (p := ⟨g, 1, none⟩) (v := .string s) a1 HG.out; have h3 := c3.1.cell (p := ⟨g, 3, none⟩) (v := .slice ba bn bc) a3 HG.out; have C3 := hide c3; clear c3))
  clear h1 h3 f1 f3 a1 a3
  go_wp2_with fail
  obtain ⟨cs0, r1, r2, r3⟩ := ROW.out
  have R4 := hide (C3.out.1.heap (k := go) r1 HGO.out)
  have R2 := hide r2
  clear r1 r2 r3
  go_loopw [13] (fun iv wr => ∃ j : Nat, iv = .int .i64 (j : Nat) ∧ j ≤ bn ∧ Turns (fun k => k = go) w4 wr ∧ ∃ cs, wr.heap[go]? = some (.cells cs 5 (0, 0)) ∧ co ≤ cs.size) (fun iv _ => bn - (intOf iv).toNat)
  case atStart => exact ⟨0, rfl, by omega, Turns.refl _ _, cs0, R4.out, R2.out⟩
  case round =>
    obtain ⟨j, rfl, hj, ht, cs, hc, hcs⟩ := hrel
    have HTR := hide ht
    have HC5 := hide hc
    have HCS := hide hcs
    clear ht hc hcs
    by_cases hj2 : j < bn
    · have i1 : (j : Int) < bn := by omega
      have hjc : j < cs.size := by have := HCS.out; have := HCO.out; omega
      have x1 : wr.cell? ⟨go, j, none⟩ = some cs[j] := by rw [cell_of_row wr go j cs 5 (0, 0) HC5.out]; simp [hjc]
      have x2 : wr.frozen? ⟨go, j, none⟩ = false := frozen_of_row wr go j cs 5 HC5.out
      go_wp2_with fail
      go_roundw
      case rel =>
        have k6 := (Tick.refl HC5.out).set j (.int .u8 0)
        refine ⟨j + 1, by go_num, by omega, HTR.out.trans (Turns.of_tick k6), _, k6.1, by simpa using HCS.out⟩
      case measure =>
        simp [intOf]
        omega
    · have i1 : ¬ (j : Int) < bn := by omega
      go_wp2_with fail
      go_ret
      obtain ⟨u0, rho', d', r', A', C', u1, u2, u3⟩ := C3.out
      have hgo : ¬ AC A' C' go := fun x => HGO.out (u3 go (by have := HLT.out; exact this) x)
      refine ⟨by simp, fin_from HT.out ⟨?_, rho', d', r', A', C', ⟨u1.rep.keep HTR.out (fun k _ hk e => hgo (.inl (e ▸ hk))), u1.rrep.keep HTR.out (fun k _ hk e => hgo (.inr (e ▸ hk))), u1.apart, fun k hk => ⟨(u1.la k hk).1, Nat.lt_of_lt_of_le (u1.la k hk).2 HTR.out.size⟩, fun k hk => ⟨(u1.lc k hk).1, Nat.lt_of_lt_of_le (u1.lc k hk).2 HTR.out.size⟩⟩, u2, fun k hk x => u3 k (Nat.lt_of_lt_of_le hk TD.out.size) x⟩⟩
      refine Turns.andThen ((TD.out.mono fun _ _ x => x.elim).trans u0) HTR.out fun k hk e => ?_
      have := HGW.out
      omega
set_option maxRecDepth 100000 in
set_option maxHeartbeats 4000000 in
theorem act_11 (hm : Mem2 B f q w d r A C) (hB : B ≤ w.heap.size) (hi : Inv i rho d r) (hb : i ≤ 900) (kind N M E : Int) (s t : ByteArray) (ba ka : Option Addr) (bn bc kn kc : Nat) (hs : s.size ≤ 300) (bs : List (BitVec 8)) (hw : Bytes w (.slice ba bn bc) bs) (hba : ∀ p o, ba = some ⟨p, o, none⟩ → 0 < bn → p < B) (hbn : bn ≤ 300) (hp : pickZ kind 12 = 11) :
    Calls Try.prog 25 #[.pointer (some ⟨f, 0, none⟩), .pointer (some ⟨q, 0, none⟩), .agg #[.int .i64 kind, .string s, .string t, .slice ba bn bc, .int .i64 N, .int .i64 M, .int .i64 E, .slice ka kn kc]] w fun e w' => e = .returned (.bool true) ∧ Fin B i f q A C w w' := by
  have hrow : (w.alloc (.cells #[.int .i64 kind, .string s, .string t, .slice ba bn bc, .int .i64 N, .int .i64 M, .int .i64 E, .slice ka kn kc] 49)).heap[w.heap.size]? = some (.cells #[.int .i64 kind, .string s, .string t, .slice ba bn bc, .int .i64 N, .int .i64 M, .int .i64 E, .slice ka kn kc] 49 (0, 0)) := heap_alloc_new w _
  have HR := hide hrow
  have HG := hide hm.alone
  have HT := hide ((Turns.refl (AC A C) w).alloc (.cells #[.int .i64 kind, .string s, .string t, .slice ba bn bc, .int .i64 N, .int .i64 M, .int .i64 E, .slice ka kn kc] 49))
  have HM := hide (hm.quiet ((Turns.refl _ w).alloc (.cells #[.int .i64 kind, .string s, .string t, .slice ba bn bc, .int .i64 N, .int .i64 M, .int .i64 E, .slice ka kn kc] 49)))
  have HB := hide hB
  have HP := hide hp
  have HS0 := hide hm.la
  have HS1 := hide hm.lc
  have HW := hide (hw.keep ((Turns.refl (fun _ => False) w).alloc (.cells #[.int .i64 kind, .string s, .string t, .slice ba bn bc, .int .i64 N, .int .i64 M, .int .i64 E, .slice ka kn kc] 49)) (fun _ _ _ x => x))
  clear hrow hm hp hB hw
  go_enter Try.func25, Try.ntmps25
  go_wp2_with fail
  have hsz : (w.alloc (.cells #[.int .i64 kind, .string s, .string t, .slice ba bn bc, .int .i64 N, .int .i64 M, .int .i64 E, .slice ka kn kc] 49)).heap.size = w.heap.size + 1 := by simp
  have HB1 := hide (show B ≤ (w.alloc (.cells #[.int .i64 kind, .string s, .string t, .slice ba bn bc, .int .i64 N, .int .i64 M, .int .i64 E, .slice ka kn kc] 49)).heap.size by rw [hsz]; have := HB.out; omega)
  clear hsz
  generalize hw0 : (w.alloc (.cells #[.int .i64 kind, .string s, .string t, .slice ba bn bc, .int .i64 N, .int .i64 M, .int .i64 E, .slice ka kn kc] 49)) = w0 at *
  generalize hg0 : w.heap.size = g at *
  clear hw0
  refine (pick_any kind w0).mono ?_
  rintro e w1 ⟨rfl, hw1⟩
  subst hw1
  rw [HP.out]
  have a1 : w1.cell? ⟨g, 1, none⟩ = some (.string s) := cell_of_row w1 g 1 _ 49 (0, 0) HR.out
  have a3 : w1.cell? ⟨g, 3, none⟩ = some (.slice ba bn bc) := cell_of_row w1 g 3 _ 49 (0, 0) HR.out
  have HO := hide (own_any _ bs w1 HW.out (by have := HW.out.len; omega))
  go_wp2_with fail
  refine HO.out.mono ?_
  rintro e w2 ⟨go, co, rfl, hgo, hco, row, b2⟩
  have hnl := HW.out.len
  have TB := hide (Turns.of_below b2 (fun _ => False))
  have a1 := TB.out.cell a1 (fun x => x)
  have a3 := TB.out.cell a3 (fun x => x)
  have hgs : g < w1.heap.size := lt_of_heap HR.out
  have ROW := hide row
  have HL := hide hnl
  rw [← hnl]
  have hoA : ∀ p o, (some ⟨go, 0, none⟩ : Option Addr) = some ⟨p, o, none⟩ → ¬ A p ∧ ¬ C p := fun p o e => by
    cases e
    exact ⟨fun x => by have := (HS0.out _ x).2; omega, fun x => by have := (HS1.out _ x).2; omega⟩
  have hbA : ∀ p o, ba = some ⟨p, o, none⟩ → 0 < bn → ¬ A p ∧ ¬ C p := fun p o e h0 => ⟨fun x => by have := (HS0.out _ x).1; have := hba p o e h0; omega, fun x => by have := (HS1.out _ x).1; have := hba p o e h0; omega⟩
  have TD := hide (TB.out.drew)
  have HC := hide (append_pair (HM.out.quiet TD.out) (Nat.le_trans HB1.out TD.out.size) hi hb s hs (some ⟨go, 0, none⟩) ba bn co bc bs (RowB.bytes (w := w2.drew) ROW.out hnl) (HW.out.keep TD.out (fun _ _ _ x => x)) hbn hoA hbA)
  have hgo0 : ¬ AC A C go := fun x => by
    rcases x with x | x
    · exact (hoA go 0 rfl).1 x
    · exact (hoA go 0 rfl).2 x
  have HGO := hide hgo0
  have HCO := hide (show bn ≤ co by omega)
  have HLT := hide (show go < w2.heap.size by obtain ⟨cs, h1, _⟩ := row; exact lt_of_heap h1)
  have HGW := hide hgo
  clear row hnl hoA hbA hgo0 hgo hco b2 hgs hba
  go_wp2_with fail
  go_region_held (fun w' => w'.cell? ⟨g, 1, none⟩ = some (.string s) ∧ w'.cell? ⟨g, 3, none⟩ = some (.slice ba bn bc)) (first | (with_reducible exact ⟨h1, h3⟩) | (with_reducible exact ⟨f1, f3⟩) | (simp only [World.cell?_drew]; with_reducible exact ⟨a1, a3⟩)) (first
    | (go_at_call 10; refine HC.out.mono ?_; rintro e w3 ⟨z, rfl, t2, c2⟩; have f1 := t2.cell (p := ⟨g, 1, none⟩) (v := .string s) a1 HG.out; have f3 := t2.cell (p := ⟨g, 3, none⟩) (v := .slice ba bn bc) a3 HG.out; have T2 := hide t2; have C2 := hide c2; clear t2 c2)
    | (go_at_call 66; refine C2.out.mono ?_; rintro e w4 ⟨rfl, c3⟩; have h1 := c3.1.cell (p := ⟨g, 1, none⟩) (v := .string s) a1 HG.out; have h3 := c3.1.cell (p := ⟨g, 3, none⟩) (v := .slice ba bn bc) a3 HG.out; have C3 := hide c3; clear c3))
  clear h1 h3 f1 f3 a1 a3
  go_wp2_with fail
  obtain ⟨cs0, r1, r2, r3⟩ := ROW.out
  have R4 := hide (C3.out.1.heap (k := go) r1 HGO.out)
  have R2 := hide r2
  clear r1 r2 r3
  go_loopw [13] (fun iv wr => ∃ j : Nat, iv = .int .i64 (j : Nat) ∧ j ≤ bn ∧ Turns (fun k => k = go) w4 wr ∧ ∃ cs, wr.heap[go]? = some (.cells cs 5 (0, 0)) ∧ co ≤ cs.size) (fun iv _ => bn - (intOf iv).toNat)
  case atStart => exact ⟨0, rfl, by omega, Turns.refl _ _, cs0, R4.out, R2.out⟩
  case round =>
    obtain ⟨j, rfl, hj, ht, cs, hc, hcs⟩ := hrel
    have HTR := hide ht
    have HC5 := hide hc
    have HCS := hide hcs
    clear ht hc hcs
    by_cases hj2 : j < bn
    · have i1 : (j : Int) < bn := by omega
      have hjc : j < cs.size := by have := HCS.out; have := HCO.out; omega
      have x1 : wr.cell? ⟨go, j, none⟩ = some cs[j] := by rw [cell_of_row wr go j cs 5 (0, 0) HC5.out]; simp [hjc]
      have x2 : wr.frozen? ⟨go, j, none⟩ = false := frozen_of_row wr go j cs 5 HC5.out
      go_wp2_with fail
      go_roundw
      case rel =>
        have k6 := (Tick.refl HC5.out).set j (.int .u8 0)
        refine ⟨j + 1, by go_num, by omega, HTR.out.trans (Turns.of_tick k6), _, k6.1, by simpa using HCS.out⟩
      case measure =>
        simp [intOf]
        omega
    · have i1 : ¬ (j : Int) < bn := by omega
      go_wp2_with fail
      go_ret
      obtain ⟨u0, rho', d', r', A', C', u1, u2, u3⟩ := C3.out
      have hgo : ¬ AC A' C' go := fun x => HGO.out (u3 go (by have := HLT.out; exact this) x)
      refine ⟨by simp, fin_from HT.out ⟨?_, rho', d', r', A', C', ⟨u1.rep.keep HTR.out (fun k _ hk e => hgo (.inl (e ▸ hk))), u1.rrep.keep HTR.out (fun k _ hk e => hgo (.inr (e ▸ hk))), u1.apart, fun k hk => ⟨(u1.la k hk).1, Nat.lt_of_lt_of_le (u1.la k hk).2 HTR.out.size⟩, fun k hk => ⟨(u1.lc k hk).1, Nat.lt_of_lt_of_le (u1.lc k hk).2 HTR.out.size⟩⟩, u2, fun k hk x => u3 k (Nat.lt_of_lt_of_le hk TD.out.size) x⟩⟩
      refine Turns.andThen ((TD.out.mono fun _ _ x => x.elim).trans u0) HTR.out fun k hk e => ?_
      have := HGW.out
      omega
end
end Go.Proofs.Ytefjljdgdoklmaa

/-
  Both file systems tell the same.
-/
namespace Go.Proofs.Ytefjljdgdoklmaa
open Go.RowKit Go.Maps Go.Sort
theorem SRow.strs {w : World} {B : Nat} {v : Value} {ss : List (List UInt8)} (h : SRow w B v ss) : ∃ a n c, v = .slice a n c ∧ Strs w a n (ss.map toBA) ∧ ∀ q o, a = some ⟨q, o, none⟩ → B ≤ q ∧ q < w.heap.size := by
  rcases h with ⟨rfl, rfl⟩ | ⟨g, c, n, rfl, h2, _, hB, cs, h5, h6, h7⟩
  · exact ⟨none, 0, 0, rfl, ⟨rfl, fun k hk => by omega⟩, fun q o e => by cases e⟩
  · refine ⟨_, n, c, rfl, ⟨by rw [List.length_map]; exact h2, fun k hk => ⟨g, 0, rfl, ?_⟩⟩, fun q o e => by cases e; exact ⟨hB, lt_of_heap h5⟩⟩
    have hk' : k < ss.length := by omega
    rw [Nat.zero_add, cell_of_row w g k cs 9 (0, 0) h5, h7 k (by simp [strCells, hk'])]
    simp [strCells, hk', encStr, toBA]
section
variable {B i f q : Nat} {w : World} {d : Disk} {r : RDisk} {A C : Nat → Prop} {rho : Nat → Nat}
theorem Inv.namesR (hi : Inv i rho d r) : namesOf r.now = namesOf d.names := namesOf_both hi.nn (Nod.foldR r.changes hi.nr) hi.sim.now
theorem Inv.sizeR (hi : Inv i rho d r) (s : ByteArray) : r.size s = d.size s := by
  unfold RDisk.size Disk.size
  rw [hi.sim.now]
  cases e : fileOf d.names s with
  | none => rfl
  | some g =>
    show (match r.files (rho g) with | none => -1 | some x => (x.bytes.length : Int)) = _
    rw [hi.sim.files g (hi.sim.named e)]
    rfl
set_option maxRecDepth 100000 in
set_option maxHeartbeats 4000000 in
theorem alike_any (hm : Mem2 B f q w d r A C) (hi : Inv i rho d r) (hb : i ≤ 900) :
    Calls Try.prog 26 #[.pointer (some ⟨f, 0, none⟩), .pointer (some ⟨q, 0, none⟩)] w fun e w' => e = .returned (.bool true) ∧ Below w.heap.size w w' := by
  have hn : ∀ s, s ∈ namesOf d.names → s.size ≤ maxLen := fun s hs => by
    obtain ⟨g, hg⟩ := (mem_namesOf hi.nn.1 s).1 hs
    exact Nat.le_trans (hi.short hg) (by unfold maxLen; omega)
  have HM := hide hm
  have H67 := hide (rnames_rep C q r w hm.rrep (hi.rnum (by omega)) (Nat.le_trans hi.rnow (by omega)))
  have hnl : (namesOf d.names).length ≤ 1000 := by rw [← nod_size hi.nn]; have := hi.names; omega
  clear hm
  go_enter Try.func26, Try.ntmps26
  go_wp2_with fail
  refine H67.out.mono ?_
  rintro e w1 ⟨v, rfl, hs, b1⟩
  obtain ⟨sa, sn, sc, rfl, hst, hsb⟩ := hs.strs
  have hnames : ((strKeys r.now).mergeSort leB).map toBA = namesOf d.names := hi.namesR
  rw [hnames] at hst
  have M1 := hide (HM.out.quiet (Turns.of_below b1 _))
  have ST := hide hst
  have SB := hide hsb
  have B1 := hide b1
  have HN := hide hn
  have hlen : sn = (namesOf d.names).length := hst.1
  have HL := hide hlen
  generalize hNS : namesOf d.names = NS at *
  have HNS := hide hNS
  obtain ⟨rbs, rch, rfv, hrr⟩ := M1.out.rrep
  have x3 : w1.cell? ⟨q, 3, none⟩ = some (.bool r.off) := cell_of_row w1 q 3 _ 84 (0, 0) hrr.cells
  have x7 : w1.cell? ⟨q, 7, none⟩ = some (.int .i64 r.n) := cell_of_row w1 q 7 _ 84 (0, 0) hrr.cells
  have hql : q < w1.heap.size := lt_of_heap hrr.cells
  have QL := hide hql
  have M1d := hide (M1.out.quiet (Turns.refl (fun _ => False) w1).drew)
  have hnn : Maps.size d.names ≤ 1000000 := by have := hi.names; omega
  have H12 := hide (names_rep A f d w1.drew M1d.out.rep hnn)
  have hoff : r.off = !d.on := hi.sim.on
  have hN : r.n = d.ops := hi.sim.n
  clear hs hst hsb b1 hn hlen hNS hnames hrr hql hnn H67 HM
  rw [hoff] at x3
  rw [hN] at x7
  clear hoff hN
  go_wp2_with fail
  go_region_held (fun w' => w'.cell? ⟨q, 3, none⟩ = some (.bool !d.on) ∧ w'.cell? ⟨q, 7, none⟩ = some (.int .i64 d.ops)) (first | (with_reducible exact ⟨z3, z7⟩) | (with_reducible exact ⟨y3, y7⟩) | (simp only [World.cell?_drewN]; with_reducible exact ⟨y3, y7⟩) | (simp only [World.cell?_drew]; with_reducible exact ⟨x3, x7⟩)) (first
    | (go_at_call 12; refine H12.out.mono ?_; rintro e w2 ⟨va, vc, rfl, hcs, b2⟩; rw [HNS.out] at hcs ⊢; rw [← HL.out]; have t2 := (Turns.refl (fun _ => False) w1).drew.trans (Turns.of_below b2 (fun _ => False)); have y3 := t2.cell x3 (fun x => x); have y7 := t2.cell x7 (fun x => x); have T2 := hide t2; have HCS := hide hcs; clear hcs t2 b2)
    | (go_at_call 16; refine (strings_same va sa sn vc sc NS w2 ⟨HL.out, fun k hk => (by obtain ⟨q', h1, h2, h3⟩ := HCS.out k (by have := HL.out; omega); exact ⟨q', 0, h1, by rw [Nat.zero_add]; exact h3⟩)⟩ (ST.out.keep T2.out (fun _ _ _ x => x)) (by have := HL.out; omega)).mono ?_; rintro e w3 ⟨rfl, m, rfl⟩)
    | (go_at_call 32; refine (used_rep A f d _ ((M1.out.quiet (T2.out.drewN m)).rep)).mono ?_; rintro e w4 ⟨rfl, rfl⟩)
    | (go_at_call 68; refine (rused_rep C q r _ ((M1.out.quiet (T2.out.drewN m)).rrep) (hi.rnum (by omega)) (hi.fits (by omega))).mono ?_; rintro e w5 ⟨ls, rfl, hl1, hl2, b5⟩; rw [hi.acc.used hi.sim ⟨hl1, hl2⟩]; have t5 := (T2.out.drewN m).trans (Turns.of_below b5 (fun _ => False)); have z3 := t5.cell x3 (fun x => x); have z7 := t5.cell x7 (fun x => x); have T5 := hide t5; clear t5 b5 hl1 hl2)
    | (go_at_call 18; refine (on_rep A f d _ ((M1.out.quiet T5.out).rep)).mono ?_; rintro e w6 ⟨rfl, rfl⟩)
    | (go_at_call 33; refine (ops_rep A f d _ ((M1.out.quiet T5.out).rep)).mono ?_; rintro e w7 ⟨rfl, rfl⟩))
  have M7 := hide (M1.out.quiet T5.out)
  have ST7 := hide (ST.out.keep T5.out (fun _ _ _ x => x))
  have W7 := hide (show Below w.heap.size w w7 from B1.out.trans (T5.out.below (B := w.heap.size) B1.out.size (fun _ x => x.elim)))
  have hsn : sn ≤ 1000 := by have := HL.out; omega
  clear x3 x7 y3 y7 z3 z7 T2 T5 M1 M1d ST H12 B1 QL
  go_wp2_with fail
  go_loopw [6] (fun iv wr => ∃ k : Nat, iv = .int .i64 (k : Nat) ∧ k ≤ sn ∧ Turns (fun _ => False) w7 wr) (fun iv _ => sn - (intOf iv).toNat)
  case atStart => exact ⟨0, rfl, by omega, Turns.refl _ _⟩
  case round =>
    obtain ⟨k, rfl, hk, ht⟩ := hrel
    have TR := hide ht
    clear ht
    by_cases hk2 : k < sn
    · have i1 : (k : Int) < sn := by omega
      obtain ⟨p, o, hsa, hc⟩ := (ST7.out.keep TR.out (fun _ _ _ x => x)).2 k hk2
      subst hsa
      have hns : (NS.getD k ⟨#[]⟩).size ≤ maxLen := by
        refine HN.out _ ?_
        have hk3 : k < NS.length := by have := HL.out; omega
        rw [List.getD_eq_getElem?_getD, List.getElem?_eq_getElem hk3]
        exact List.getElem_mem hk3
      have MR := hide (M7.out.quiet TR.out)
      generalize NS.getD k ⟨#[]⟩ = nm at *
      have HSZ := hide hns
      clear hns
      have HSR := hide (hi.sizeR nm)
      go_wp2_with fail
      go_region_held (fun w' => w'.cell? ⟨p, o + k, none⟩ = some (.string nm)) (first | (with_reducible exact g1) | (simp only [World.cell?_drew]; with_reducible exact hc)) (first
        | (go_at_call 31; refine (size_rep A f d nm _ ((MR.out.quiet (Turns.refl (fun _ => False) wr).drew).rep) HSZ.out).mono ?_; rintro e w8 ⟨rfl, rfl⟩)
        | (go_at_call 69; refine (rsize_rep C q r nm _ ((MR.out.quiet (Turns.refl (fun _ => False) wr).drew).rrep) (hi.rnum (by omega)) HSZ.out).mono ?_; rintro e w9 ⟨rfl, b9⟩; rw [HSR.out]; have t9 := (Turns.refl (fun _ => False) wr).drew.trans (Turns.of_below b9 (fun _ => False)); have g1 := t9.cell hc (fun x => x); have T9 := hide t9; clear t9 b9))
      go_wp2_with fail
      go_roundw
      case rel => exact ⟨k + 1, by go_num, by omega, TR.out.trans T9.out⟩
      case measure =>
        simp [intOf]
        omega
    · have i1 : ¬ (k : Int) < sn := by omega
      go_wp2_with fail
      go_ret
      exact ⟨rfl, W7.out.trans (TR.out.below (B := w.heap.size) W7.out.size (fun _ x => x.elim))⟩
end
end Go.Proofs.Ytefjljdgdoklmaa

/-
  Behind a crash both file systems read the same.
-/
namespace Go.Proofs.Ytefjljdgdoklmaa
open Go.RowKit Go.Maps Go.Sort
section
variable {B i f q : Nat} {w : World} {d : Disk} {r : RDisk} {A C : Nat → Prop} {rho : Nat → Nat}
theorem Inv.sizeB (hi : Inv i rho d r) (hb : i ≤ 900) (s : ByteArray) : -1 ≤ r.size s ∧ r.size s ≤ 1000000 := by
  unfold RDisk.size
  cases fileOf r.now s with
  | none => simp
  | some g =>
    cases e : r.files g with
    | none => simp [e]
    | some x =>
      have := (hi.rbytes g x e).1
      simp only [e]
      omega
theorem tdiv2 {z : Int} (h : -1 ≤ z ∧ z ≤ 1000000) : -1 ≤ z.tdiv 2 ∧ z.tdiv 2 ≤ 1000000 := by
  rcases (show z < 0 ∨ 0 ≤ z by omega) with h0 | h0
  · have : z = -1 := by omega
    subst this
    decide
  · rw [Int.tdiv_eq_ediv_of_nonneg h0]
    omega
def Kept (B f q j : Nat) (sa : Option Addr) (sn : Nat) (NS : List ByteArray) (w wr : World) : Prop :=
  ∃ (rho : Nat → Nat) (d : Disk) (r : RDisk) (A C : Nat → Prop), Mem2 B f q wr d r A C ∧ Inv j rho d r ∧ Strs wr sa sn NS ∧ (∀ p o, sa = some ⟨p, o, none⟩ → ¬ AC A C p ∧ p < wr.heap.size) ∧ Turns (fun k => B ≤ k) w wr
set_option maxRecDepth 100000 in
set_option maxHeartbeats 4000000 in
theorem reads_any (hm : Mem2 B f q w d r A C) (hB : B ≤ w.heap.size) (hi : Inv i rho d r) (hb : i ≤ 200) :
    Calls Try.prog 27 #[.pointer (some ⟨f, 0, none⟩), .pointer (some ⟨q, 0, none⟩)] w fun e w' => e = .returned (.bool true) ∧ Turns (fun k => B ≤ k) w w' := by
  have HM := hide hm
  have HB := hide hB
  have H67 := hide (rnames_rep C q r w hm.rrep (hi.rnum (by omega)) (Nat.le_trans hi.rnow (by omega)))
  have hnl : (namesOf d.names).length ≤ 200 := by rw [← nod_size hi.nn]; have := hi.names; omega
  have HNL := hide hnl
  clear hm hB hnl
  go_enter Try.func27, Try.ntmps27
  go_wp2_with fail
  refine H67.out.mono ?_
  rintro e w1 ⟨v, rfl, hs, b1⟩
  obtain ⟨sa, sn, sc, rfl, hst, hsb⟩ := hs.strs
  have hnames : ((strKeys r.now).mergeSort leB).map toBA = namesOf d.names := hi.namesR
  rw [hnames] at hst
  have T1 := hide (Turns.of_below b1 (fun _ => False))
  have M1 := hide (HM.out.quiet T1.out)
  have ST := hide hst
  have hsn : sn ≤ 200 := by have := hst.1; have := HNL.out; omega
  have HNM := hide (show ∀ s, s ∈ namesOf d.names → s.size ≤ maxLen from fun s hs => by
    obtain ⟨g, hg⟩ := (mem_namesOf hi.nn.1 s).1 hs
    exact Nat.le_trans (hi.short hg) (by unfold maxLen; omega))
  clear hs hst hsb b1 hnames H67 HNL
  generalize namesOf d.names = NS at *
  have hw1 : w.heap.size ≤ w1.heap.size := T1.out.size
  have HW1 := hide hw1
  clear hw1
  go_wp2_with fail
  go_loopw [6, 7] (fun v6 iv wr => ∃ (k : Nat) (ks : List Int), iv = .int .i64 (k : Nat) ∧ k ≤ sn ∧ IRow wr w1.heap.size v6 ks ∧ ks.length = k ∧ (∀ z, z ∈ ks → -1 ≤ z ∧ z ≤ 1000000) ∧ Turns (fun _ => False) w1 wr) (fun _ iv _ => sn - (intOf iv).toNat)
  case atStart => exact ⟨0, [], rfl, by omega, .inl ⟨rfl, rfl⟩, rfl, fun z hz => (by cases hz), Turns.refl _ _⟩
  case round =>
    obtain ⟨k, ks, rfl, hk, hrow, hkl, hkb, ht⟩ := hrel
    have TR := hide ht
    have HK := hide hkb
    have ROW := hide hrow
    have KL := hide hkl
    clear ht hkb hrow hkl
    by_cases hk2 : k < sn
    · have i1 : (k : Int) < sn := by omega
      obtain ⟨p, o, hsa, hc⟩ := (ST.out.keep TR.out (fun _ _ _ x => x)).2 k hk2
      subst hsa
      have hns : (NS.getD k ⟨#[]⟩).size ≤ maxLen := by
        refine HNM.out _ ?_
        have hk3 : k < NS.length := by have := ST.out.1; omega
        rw [List.getD_eq_getElem?_getD, List.getElem?_eq_getElem hk3]
        exact List.getElem_mem hk3
      have MR := hide (M1.out.quiet TR.out)
      generalize NS.getD k ⟨#[]⟩ = nm at *
      have HSZ := hide hns
      clear hns
      have H69 := hide (rsize_rep C q r nm wr MR.out.rrep (hi.rnum (by omega)) HSZ.out)
      have HZ := hide (tdiv2 (hi.sizeB (by omega) nm))
      go_wp2_with fail
      refine H69.out.mono ?_
      rintro e w2 ⟨rfl, b2⟩
      have T2 := hide (Turns.of_below b2 (fun _ => False))
      clear b2
      generalize hzz : (r.size nm).tdiv 2 = zz at *
      have hz1 := HZ.out
      have ta : Turns (fun _ => False) w2 (w2.alloc (.cells #[.int .i64 zz] 3)) := (Turns.refl _ w2).alloc _
      have hsz : w1.heap.size ≤ w2.heap.size := Nat.le_trans TR.out.size T2.out.size
      obtain ⟨g3, n3, c3, w3, hr3, hrow3, t3, b3⟩ := append_int (w2.alloc (.cells #[.int .i64 zz] 3)) w1.heap.size u6 ks ((ROW.out.keep T2.out (fun _ _ x => x)).keep ta (fun _ _ x => x)) (by simp; omega) (by have := KL.out; omega) zz ⟨w2.heap.size, 0, none⟩ 1 (by simp)
      have T3 := hide (show Turns (fun _ => False) w1 w3 from (TR.out.trans (T2.out.trans ta)).andThen t3 fun j hj hin => by
        have := (ROW.out.row hin).1
        omega)
      have ROW3 := hide hrow3
      have R3 := hide (hr3 47)
      clear hr3 hrow3 t3 b3 ta hsz
      go_wp2_with (at_builtin; refine wpList_append_run rfl (.tmp 21) (.tmp 29) 47 rfl u6 (.slice (some ⟨w2.heap.size, 0, none⟩) 1 1) rfl rfl _ _ R3.out ?_)
      go_roundw
      case rel =>
        refine ⟨k + 1, ks ++ [zz], by go_num, by omega, ROW3.out, by rw [List.length_append, KL.out]; rfl, fun z hz => ?_, T3.out⟩
        rcases List.mem_append.1 hz with hz | hz
        · exact HK.out z hz
        · rw [List.mem_singleton.1 hz]
          exact hz1
      case measure =>
        simp [intOf]
        omega
    · have i1 : ¬ (k : Int) < sn := by omega
      have MR := hide (M1.out.quiet TR.out)
      have hBr : B ≤ wr.heap.size := Nat.le_trans HB.out (Nat.le_trans HW1.out TR.out.size)
      obtain ⟨ka, kn, kc, rfl, hI, hIb⟩ := ROW.out.ints
      have hks : ∀ z, z ∈ ks → z ≤ 9223372036854775807 ∧ -9223372036854775808 ≤ z := fun z hz => by have := HK.out z hz; omega
      have HC := hide (crash_pair MR.out hBr hi (by omega) 1048576 (by omega) (by omega) ka kn kc ks hI (fun a o e _ => (hIb a o e).2) hks)
      have HI := hide hI
      have HIB := hide (show ∀ p o, ka = some ⟨p, o, none⟩ → ¬ A p ∧ ¬ C p from fun p o e => by
        have h1 := (hIb p o e).1
        have h2 := HW1.out
        exact ⟨fun x => by have := (HM.out.la p x).2; omega, fun x => by have := (HM.out.lc p x).2; omega⟩)
      have HBR := hide hBr
      clear hI hIb hks hBr ROW
      go_wp2_with fail
      refine HC.out.mono ?_
      rintro e w2 ⟨⟨v, rfl⟩, t2, c2⟩
      have C2 := hide (c2 w2 ka kc (Turns.refl _ _) (HI.out.keep t2 (fun p o e => (HIB.out p o e).2)) (fun p o e => (HIB.out p o e).1))
      clear t2 c2
      go_wp2_with fail
      refine C2.out.mono ?_
      rintro e w3 ⟨rfl, c3⟩
      obtain ⟨t3, rho3, d3, r3, A3, C3, m3, hi3, k3⟩ := c3
      have M3 := hide m3
      have T3 := hide (show Turns (fun k => B ≤ k) w w3 from ((T1.out.mono fun _ _ x => x.elim).trans (TR.out.mono fun _ _ x => x.elim)).trans (t3.mono fun k _ h => by
        rcases h with h | h
        · exact (HM.out.la k h).1
        · exact (HM.out.lc k h).1))
      have HA := hide (alike_any m3 hi3 (by omega))
      clear t3 m3 k3 HI HIB C2 HC MR TR M1 ST T1
      go_wp2_with fail
      refine HA.out.mono ?_
      rintro e w4 ⟨rfl, b4⟩
      have T4 := hide (Turns.of_below b4 (fun _ => False))
      have M4 := hide (M3.out.quiet T4.out)
      have H67 := hide (rnames_rep C3 q r3 w4 M4.out.rrep (hi3.rnum (by omega)) (Nat.le_trans hi3.rnow (by omega)))
      clear b4 HA
      go_wp2_with fail
      refine H67.out.mono ?_
      rintro e w5 ⟨v5, rfl, hs, b5⟩
      obtain ⟨sa', sn', sc', rfl, hst, hsb⟩ := hs.strs
      have hnames : ((strKeys r3.now).mergeSort leB).map toBA = namesOf d3.names := hi3.namesR
      rw [hnames] at hst
      have T5 := hide (Turns.of_below b5 (fun _ => False))
      have M5 := hide (M4.out.quiet T5.out)
      have hsn' : sn' ≤ 202 := by have := hst.1; have h2 := nod_size hi3.nn; have h3 := hi3.names; omega
      have HNM' := hide (show ∀ s, s ∈ namesOf d3.names → s.size ≤ 1000 from fun s hs => by
        obtain ⟨g, hg⟩ := (mem_namesOf hi3.nn.1 s).1 hs
        exact hi3.short hg)
      have hK : Kept B f q (i + 2) sa' sn' (namesOf d3.names) w w5 := ⟨rho3, d3, r3, A3, C3, M5.out, hi3, hst, fun p o e => by
        have h1 := hsb p o e
        refine ⟨fun x => ?_, h1.2⟩
        rcases x with x | x
        · have := (M4.out.la p x).2; omega
        · have := (M4.out.lc p x).2; omega, T3.out.trans ((T4.out.trans T5.out).mono fun _ _ x => x.elim)⟩
      have HK5 := hide hK
      have HSL := hide hst.1
      clear hs hst hsb b5 hnames hK H67 M3 M4 M5 T4 T5 T3
      generalize namesOf d3.names = NS3 at *
      go_wp2_with fail
      go_loopw [8] (fun iv wr => ∃ k : Nat, iv = .int .i64 (k : Nat) ∧ k ≤ sn' ∧ Kept B f q (i + 2 + 2 * k) sa' sn' NS3 w wr) (fun iv _ => sn' - (intOf iv).toNat)
      case atStart => exact ⟨0, rfl, by omega, HK5.out⟩
      case round =>
        obtain ⟨k, rfl, hk, hK⟩ := hrel
        obtain ⟨rho6, d6, r6, A6, C6, m6, hi6, st6, sb6, t6⟩ := hK
        have M6 := hide m6
        have T6 := hide t6
        have ST6 := hide st6
        have SB6 := hide sb6
        clear m6 t6 st6 sb6
        by_cases hk2 : k < sn'
        · have i1 : (k : Int) < sn' := by omega
          obtain ⟨p, o, hsa, hc⟩ := ST6.out.2 k hk2
          subst hsa
          have hns : (NS3.getD k ⟨#[]⟩).size ≤ 1000 := by
            refine HNM'.out _ ?_
            have hk3 : k < NS3.length := by have := ST6.out.1; omega
            rw [List.getD_eq_getElem?_getD, List.getElem?_eq_getElem hk3]
            exact List.getElem_mem hk3
          have HNS3 := hide (show NS3.getD k ⟨#[]⟩ = NS3.getD k ⟨#[]⟩ from rfl)
          generalize NS3.getD k ⟨#[]⟩ = nm at *
          have hBr : B ≤ wr.heap.size := Nat.le_trans HB.out T6.out.size
          have HC6 := hide (read_pair M6.out hBr hi6 (by omega) nm hns 0 1073741824 (by omega) (by omega))
          clear hns
          go_wp2_with fail
          refine HC6.out.mono ?_
          rintro e w7 ⟨xa, xm, xc, z, bs, rfl, t7, c7⟩
          have hc := t7.cell hc (SB6.out p o rfl).1
          have C7 := hide c7
          clear t7 c7
          go_wp2_with fail
          refine C7.out.mono ?_
          rintro e w8 ⟨ya, yc, rfl, b1, b2, hm0, c8⟩
          have C8 := hide c8
          have HS := hide (bytes_same xa ya xm xc yc bs w8 b1 b2 (by omega))
          clear c8 b1 b2 hm0
          go_wp2_with fail
          refine HS.out.mono ?_
          rintro e w9 ⟨rfl, m, rfl⟩
          go_wp2_with fail
          go_roundw
          case rel =>
            obtain ⟨t8, rho8, d8, r8, A8, C8', m8, hi8, k8⟩ := C8.out
            refine ⟨k + 1, by go_num, by omega, rho8, d8, r8, A8, C8', m8.quiet ((Turns.refl _ w8).drewN m), hi8, (ST6.out.keep t8 (fun p' o' e => by cases e; exact (SB6.out p o rfl).1)).keep ((Turns.refl (fun _ => False) w8).drewN m) (fun _ _ _ x => x), fun p' o' e => ?_, (T6.out.trans (t8.mono fun j _ h => ?_)).drewN m⟩
            · cases e
              exact ⟨fun x => (SB6.out p o rfl).1 (k8 p (SB6.out p o rfl).2 x), Nat.lt_of_lt_of_le (SB6.out p o rfl).2 t8.size⟩
            · rcases h with h | h
              · exact (M6.out.la j h).1
              · exact (M6.out.lc j h).1
          case measure =>
            simp [intOf]
            omega
        · have i1 : ¬ (k : Int) < sn' := by omega
          go_wp2_with fail
          go_ret
          exact ⟨rfl, T6.out⟩
end
end Go.Proofs.Ytefjljdgdoklmaa
