import Derived.Test.YtefjljdgdoklmaaM33
import Derived.Deep.RegionHeldLaw
/-
  Rows of numbers of one's own.
-/
namespace Go.Proofs.Ytefjljdgdoklmaa
open Go.RowKit Go.Maps
theorem t3_size : Try.t3.size = 1 := by kernel_rfl
theorem t3_bytes : Try.t3.bytes = 8 := by kernel_rfl
theorem t3_info : Try.prog.info? 3 = some Try.t3 := by kernel_rfl
theorem t3_zero : Try.t3.zero = some (.int .i64 0) := by kernel_rfl
def intCells (ks : List Int) : List Value := ks.map fun z => .int .i64 z
def IRow (w : World) (B : Nat) (v : Value) (ks : List Int) : Prop :=
  (ks = [] ∧ v = .slice none 0 0) ∨ ∃ g c n : Nat, v = .slice (some ⟨g, 0, none⟩) n c ∧ n = ks.length ∧ n ≤ c ∧ B ≤ g ∧ RowC w g 3 c (intCells ks)
theorem IRow.keep {S : Nat → Prop} {w w' : World} {B : Nat} {v : Value} {ks : List Int} (h : IRow w B v ks) (t : Turns S w w') (hn : ∀ k, inRow v k → ¬ S k) : IRow w' B v ks := by
  rcases h with h | ⟨g, c, n, h1, h2, h3, h4, cs, h5, h6, h7⟩
  · exact .inl h
  · exact .inr ⟨g, c, n, h1, h2, h3, h4, cs, t.heap h5 (hn g ⟨n, c, h1⟩), h6, h7⟩
theorem IRow.row {w : World} {B : Nat} {v : Value} {ks : List Int} (h : IRow w B v ks) {k : Nat} (hk : inRow v k) : B ≤ k ∧ k < w.heap.size := by
  obtain ⟨n', c', e⟩ := hk
  rcases h with ⟨_, rfl⟩ | ⟨g, c, n, rfl, _, _, hB, cs, h1, _⟩
  · cases e
  · cases e; exact ⟨hB, lt_of_heap h1⟩
theorem ints_of_row {w : World} {g c : Nat} {ks : List Int} (h : RowC w g 3 c (intCells ks)) (n : Nat) (hn : n = ks.length) : Ints w (some ⟨g, 0, none⟩) n ks := by
  obtain ⟨cs, h1, h2, h3⟩ := h
  refine ⟨hn, fun k hk => ⟨g, 0, rfl, ?_⟩⟩
  have hk' : k < ks.length := by omega
  have h4 := h3 k (by simp [intCells, hk'])
  rw [Nat.zero_add]
  have : cs[k]? = some (.int .i64 (ks.getD k 0)) := by
    rw [h4]
    simp [intCells, hk', List.getD]
  exact (cell_of_row w g k cs 3 (0, 0) h1).trans this
theorem IRow.ints {w : World} {B : Nat} {v : Value} {ks : List Int} (h : IRow w B v ks) : ∃ a n c, v = .slice a n c ∧ Ints w a n ks ∧ ∀ p o, a = some ⟨p, o, none⟩ → B ≤ p ∧ p < w.heap.size := by
  rcases h with ⟨rfl, rfl⟩ | ⟨g, c, n, rfl, h2, _, hB, h5⟩
  · exact ⟨none, 0, 0, rfl, ⟨rfl, fun k hk => by omega⟩, fun p o e => by cases e⟩
  · refine ⟨_, n, c, rfl, ints_of_row h5 n h2, fun p o e => ?_⟩
    cases e
    obtain ⟨cs, h1, _⟩ := h5
    exact ⟨hB, lt_of_heap h1⟩
theorem append_int (w : World) (B : Nat) (v : Value) (ks : List Int) (h : IRow w B v ks) (hB : B ≤ w.heap.size) (hlen : ks.length ≤ 1000000000) (z : Int) (a : Addr) (c : Nat) (ha : w.cell? a = some (.int .i64 z)) :
    ∃ (g' n' c' : Nat) (w' : World), (∀ ty, (Builtin.append_ #[47, 47] ty #[v, .slice (some a) 1 c]).run Try.prog w = .ok (.slice (some ⟨g', 0, none⟩) n' c') w') ∧ IRow w' B (.slice (some ⟨g', 0, none⟩) n' c') (ks ++ [z]) ∧ Turns (inRow v) w w' ∧ Below B w w' := by
  have hsrc : Src Try.prog Try.t3.size 47 (.slice (some a) 1 c) 1 [.int .i64 z] w := Src.ofSlice w Try.underlying47 a 1 c _ (by rw [t3_size]; rfl) (fun j u hu => by
    cases j with
    | zero => cases hu; exact ha
    | succ j => cases hu) (fun u hu => by
    simp only [List.mem_cons, List.not_mem_nil, or_false] at hu
    rw [hu]; rfl)
  obtain ⟨base, sLen, sCap, rfl, hsl, hbase⟩ : ∃ (base : Option Addr) (sLen sCap : Nat), v = .slice base sLen sCap ∧ sLen = ks.length ∧ ((base = none ∧ sLen = 0 ∧ sCap = 0 ∧ 0 < 1) ∨ ∃ g, base = some ⟨g, 0, none⟩ ∧ B ≤ g ∧ sLen ≤ sCap ∧ RowC w g 3 (sCap * Try.t3.size) (intCells ks)) := by
    rcases h with ⟨rfl, rfl⟩ | ⟨g, c, n, rfl, rfl, h3, h4, h5⟩
    · exact ⟨none, 0, 0, rfl, rfl, .inl ⟨rfl, rfl, rfl, by omega⟩⟩
    · exact ⟨_, _, _, rfl, rfl, .inr ⟨g, rfl, h4, h3, by rw [t3_size, Nat.mul_one]; exact h5⟩⟩
  obtain ⟨g, cp, w', hr, hg, hrow, hb, hcp, _, _, hkeep⟩ := append_gen2 (P := Try.prog) w B 47 3 Try.t3 _ Try.underlying47 t3_info t3_zero rfl base sLen sCap (intCells ks) (by rw [t3_size, hsl]; simp [intCells]) _ 1 _ hsrc hB hbase (by rw [t3_bytes]; omega) (by omega)
  refine ⟨g, _, cp, w', hr, .inr ⟨g, cp, _, rfl, by simp [hsl], hcp, hg, ?_⟩, ⟨hb.os, hb.tape, hb.output, hb.size, fun k hk hn => hkeep k hk fun e => hn ⟨sLen, sCap, by rw [e]⟩⟩, hb⟩
  rw [t3_size, Nat.mul_one] at hrow
  rw [show intCells (ks ++ [z]) = intCells ks ++ [.int .i64 z] by simp [intCells]]
  exact hrow
/-- Numbers, copied onto a new slice. -/
theorem copy_ints (w : World) (ka : Option Addr) (kn kc : Nat) (ks : List Int) (hI : Ints w ka kn ks) (hn : kn ≤ 1000) :
    ∃ (g c : Nat) (w' : World), (∀ ty, (Builtin.append_ #[47, 47] ty #[.slice (some ⟨w.heap.size, 0, none⟩) 0 0, .slice ka kn kc]).run Try.prog (w.alloc (.cells #[] 3)) = .ok (.slice (some ⟨g, 0, none⟩) kn c) w') ∧ Ints w' (some ⟨g, 0, none⟩) kn ks ∧ w.heap.size ≤ g ∧ Turns (fun _ => False) w w' := by
  obtain ⟨hl, hI⟩ := hI
  have ta : Turns (fun _ => False) w (w.alloc (.cells #[] 3)) := (Turns.refl _ w).alloc _
  have hsrc : Src Try.prog Try.t3.size 47 (.slice ka kn kc) kn (intCells ks) (w.alloc (.cells #[] 3)) := by
    cases ka with
    | none =>
      have hz : kn = 0 := by
        rcases Nat.eq_zero_or_pos kn with h0 | h0
        · exact h0
        · obtain ⟨_, _, ha, _⟩ := hI 0 h0; cases ha
      subst hz
      obtain rfl : ks = [] := List.eq_nil_of_length_eq_zero hl.symm
      exact Src.ofNil _ Try.underlying47 kc
    | some ad =>
      refine Src.ofSlice _ Try.underlying47 ad _ kc _ (by simp [intCells, t3_size, hl]) (fun j u hu => ?_) (fun u hu => ?_)
      · have hj : j < ks.length := by
          rcases Nat.lt_or_ge j ks.length with hl | hl
          · exact hl
          · rw [List.getElem?_eq_none (by simpa [intCells] using hl)] at hu; cases hu
        obtain ⟨b, off, ha, hc⟩ := hI j (by omega)
        obtain rfl : ad = ⟨b, off, none⟩ := by simpa using ha
        rw [Go.WideShapes.add_plain, ta.cell hc (fun x => x)]
        simpa [intCells, hj, List.getD] using hu
      · obtain ⟨b, _, rfl⟩ := List.mem_map.1 hu
        rfl
  obtain ⟨g, cp, w', hr, hg, hrow, hb, hcp, _⟩ := append_gen2 (P := Try.prog) (w.alloc (.cells #[] 3)) w.heap.size 47 3 Try.t3 _ Try.underlying47 t3_info t3_zero rfl (some ⟨w.heap.size, 0, none⟩) 0 0 [] (by simp) _ kn _ hsrc (by simp) (.inr ⟨_, rfl, Nat.le_refl _, Nat.le_refl _, #[], heap_alloc_new w _, by simp, fun k hk => by simp at hk⟩) (by rw [t3_bytes]; omega) (by omega)
  rw [t3_size, Nat.mul_one, List.nil_append] at hrow
  refine ⟨g, cp, w', fun ty => by have := hr ty; rwa [Nat.zero_add] at this, ints_of_row hrow kn hl, hg, ?_⟩
  have hbA : Below w.heap.size w (w.alloc (.cells #[] 3)) := (Below.refl _ _).alloc (Nat.le_refl _) _
  exact Turns.of_below (hbA.trans hb) _
end Go.Proofs.Ytefjljdgdoklmaa

/-
  A call of both file systems, as the law makes it: Crash.
-/
namespace Go.Proofs.Ytefjljdgdoklmaa
open Go.RowKit Go.Maps Go.Sort
section
variable {B i f q : Nat} {w : World} {d : Disk} {r : RDisk} {A C : Nat → Prop} {rho : Nat → Nat}
set_option maxRecDepth 100000 in
set_option maxHeartbeats 4000000 in
theorem act_9 (hm : Mem2 B f q w d r A C) (hB : B ≤ w.heap.size) (hi : Inv i rho d r) (hb : i ≤ 900) (kind N M E : Int) (s t : ByteArray) (ba ka : Option Addr) (bn bc kn kc : Nat) (ks : List Int) (hI : Ints w ka kn ks) (hIa : ∀ a o, ka = some ⟨a, o, none⟩ → 0 < kn → a < B) (hks : ∀ z, z ∈ ks → z ≤ 9223372036854775807 ∧ -9223372036854775808 ≤ z) (hkn : kn ≤ 1000) (n1 : N ≤ 9223372036854775807) (n2 : -9223372036854775808 ≤ N) (hp : pickZ kind 12 = 9) :
    Calls Try.prog 25 #[.pointer (some ⟨f, 0, none⟩), .pointer (some ⟨q, 0, none⟩), .agg #[.int .i64 kind, .string s, .string t, .slice ba bn bc, .int .i64 N, .int .i64 M, .int .i64 E, .slice ka kn kc]] w fun e w' => e = .returned (.bool true) ∧ Fin B i f q A C w w' := by
  have hrow : (w.alloc (.cells #[.int .i64 kind, .string s, .string t, .slice ba bn bc, .int .i64 N, .int .i64 M, .int .i64 E, .slice ka kn kc] 49)).heap[w.heap.size]? = some (.cells #[.int .i64 kind, .string s, .string t, .slice ba bn bc, .int .i64 N, .int .i64 M, .int .i64 E, .slice ka kn kc] 49 (0, 0)) := heap_alloc_new w _
  have HR := hide hrow
  have HG := hide hm.alone
  have HT := hide ((Turns.refl (AC A C) w).alloc (.cells #[.int .i64 kind, .string s, .string t, .slice ba bn bc, .int .i64 N, .int .i64 M, .int .i64 E, .slice ka kn kc] 49))
  have HM := hide (hm.quiet ((Turns.refl _ w).alloc (.cells #[.int .i64 kind, .string s, .string t, .slice ba bn bc, .int .i64 N, .int .i64 M, .int .i64 E, .slice ka kn kc] 49)))
  have HB := hide hB
  have HP := hide hp
  have HS0 := hide hm.la
  have HS1 := hide hm.lc
  have HI := hide (hI.keep ((Turns.refl (fun _ => False) w).alloc (.cells #[.int .i64 kind, .string s, .string t, .slice ba bn bc, .int .i64 N, .int .i64 M, .int .i64 E, .slice ka kn kc] 49)) (fun _ _ _ x => x))
  clear hrow hm hp hB hI
  go_enter Try.func25, Try.ntmps25
  go_wp2_with fail
  have hsz : (w.alloc (.cells #[.int .i64 kind, .string s, .string t, .slice ba bn bc, .int .i64 N, .int .i64 M, .int .i64 E, .slice ka kn kc] 49)).heap.size = w.heap.size + 1 := by simp
  have HB1 := hide (show B ≤ (w.alloc (.cells #[.int .i64 kind, .string s, .string t, .slice ba bn bc, .int .i64 N, .int .i64 M, .int .i64 E, .slice ka kn kc] 49)).heap.size by rw [hsz]; have := HB.out; omega)
  clear hsz
  generalize hw0 : (w.alloc (.cells #[.int .i64 kind, .string s, .string t, .slice ba bn bc, .int .i64 N, .int .i64 M, .int .i64 E, .slice ka kn kc] 49)) = w0 at *
  generalize hg0 : w.heap.size = g at *
  clear hw0
  refine (pick_any kind w0).mono ?_
  rintro e w1 ⟨rfl, hw1⟩
  subst hw1
  rw [HP.out]
  have a4 : w1.cell? ⟨g, 4, none⟩ = some (.int .i64 N) := cell_of_row w1 g 4 _ 49 (0, 0) HR.out
  have a7 : w1.cell? ⟨g, 7, none⟩ = some (.slice ka kn kc) := cell_of_row w1 g 7 _ 49 (0, 0) HR.out
  have A4 := hide a4
  have A7 := hide a7
  have HC := hide (crash_pair HM.out HB1.out hi hb N n1 n2 ka kn kc ks HI.out (fun a o e h0 => Nat.lt_of_lt_of_le (hIa a o e h0) HB1.out) hks)
  go_wp2_with fail
  refine HC.out.mono ?_
  rintro e w2 ⟨⟨v, rfl⟩, t2, c2⟩
  have hng : ¬ C g := fun x => HG.out (.inr x)
  have a4 := t2.cell a4 hng
  have a7 := t2.cell a7 hng
  have HI2 := HI.out.keep0 t2 (fun p o e h0 x => by have h1 := hIa p o e h0; have h2 := (HS1.out p x).1; omega)
  have HI2 := hide HI2
  obtain ⟨gk, ck, w3, hr3, hI3, hg3, t3⟩ := copy_ints w2.drew ka kn kc ks HI2.out hkn
  have hsz2 := t2.size
  have hA3 : ∀ p o, (some ⟨gk, 0, none⟩ : Option Addr) = some ⟨p, o, none⟩ → ¬ A p := fun p o e x => by
    cases e
    have h1 := (HS0.out _ x).2
    have h2 : w2.heap.size ≤ gk := hg3
    have h3 := HT.out.size
    rw [hg0] at h3
    omega
  have C3 := hide (c2 w3 (some ⟨gk, 0, none⟩) ck ((Turns.refl (fun _ => False) w2).drew.trans t3) hI3 hA3)
  have b4 := t3.cell (p := ⟨g, 4, none⟩) (v := .int .i64 N) a4 (fun x => x)
  have b7 := t3.cell (p := ⟨g, 7, none⟩) (v := .slice ka kn kc) a7 (fun x => x)
  have hq := hr3 47
  have R3 := hide hq
  clear t2 c2 hr3 hI3 hg3 t3 hsz2 hA3 hIa hks hq hng
  go_wp2_with fail
  go_region_held_law (fun w' => w'.cell? ⟨g, 4, none⟩ = some (.int .i64 N) ∧ w'.cell? ⟨g, 7, none⟩ = some (.slice ka kn kc)) (first | (with_reducible exact ⟨f4, f7⟩) | (with_reducible exact ⟨b4, b7⟩) | (simp only [World.cell?_drew]; with_reducible exact ⟨a4, a7⟩) | exact ⟨alloc_keep (w := w2.drew) a4 _, alloc_keep (w := w2.drew) a7 _⟩) (first
    | (refine step_append_run rfl (.tmp 141) (.tmp 143) 47 rfl (.slice (some ⟨w2.heap.size, 0, none⟩) 0 0) (.slice ka kn kc) rfl rfl _ _ R3.out 144 rfl ?_; simp only [Act.put, List.setIfInBounds_toArray, List.set_cons_zero, List.set_cons_succ])
    | (go_at_call 11; refine C3.out.mono ?_; rintro e w5 ⟨rfl, c5⟩; have hng5 := HG.out; have f4 := c5.1.cell (p := ⟨g, 4, none⟩) (v := .int .i64 N) A4.out HG.out; have f7 := c5.1.cell (p := ⟨g, 7, none⟩) (v := .slice ka kn kc) A7.out HG.out; have C5 := hide c5; clear c5))
  go_wp2_with fail
  go_ret
  exact ⟨by simp, fin_from HT.out C5.out⟩
end
end Go.Proofs.Ytefjljdgdoklmaa
