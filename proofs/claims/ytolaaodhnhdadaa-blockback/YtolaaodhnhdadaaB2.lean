/-
  The numbers of an entry; how many bytes it has.
-/
import Derived.Test.YtolaaodhnhdadaaB1
import Derived.Laws.Tables
import Derived.Laws.Rows
namespace Go.Proofs.Ytolaaodhnhdadaa
open Go.RowKit
set_option maxRecDepth 100000
set_option maxHeartbeats 4000000
theorem lenN_bits (x : Nat) (h : x < 18446744073709551616) : lenN (x : Int) = (Lib.bitLen x : Int) := by
  have e8 : ∀ y : Nat, y < 256 → by8 (y : Int) = (Lib.bitLen y : Int) := fun y hy => by
    unfold by8
    rw [show ((y : Int) % 256).toNat = y by omega]
  unfold lenN
  have d1 : (x : Int) / 4294967296 = ((x / 4294967296 : Nat) : Int) := by omega
  have d2 : (x : Int) / 4294967296 / 65536 = ((x / 281474976710656 : Nat) : Int) := by omega
  have d3 : (x : Int) / 4294967296 / 65536 / 256 = ((x / 72057594037927936 : Nat) : Int) := by omega
  have d4 : (x : Int) / 4294967296 / 256 = ((x / 1099511627776 : Nat) : Int) := by omega
  have d5 : (x : Int) / 65536 = ((x / 65536 : Nat) : Int) := by omega
  have d6 : (x : Int) / 65536 / 256 = ((x / 16777216 : Nat) : Int) := by omega
  have d7 : (x : Int) / 256 = ((x / 256 : Nat) : Int) := by omega
  rw [d3, d2, d4, d1, d6, d5, d7]
  repeat' split
  · rw [e8 _ (by omega), Lib.bitLen_shift56 x (by omega) h]; omega
  · rw [e8 _ (by omega), Lib.bitLen_shift48 x (by omega) h]; omega
  · rw [e8 _ (by omega), Lib.bitLen_shift40 x (by omega) h]; omega
  · rw [e8 _ (by omega), Lib.bitLen_shift32 x (by omega) h]; omega
  · rw [e8 _ (by omega), Lib.bitLen_shift24 x (by omega) h]; omega
  · rw [e8 _ (by omega), Lib.bitLen_shift16 x (by omega) h]; omega
  · rw [e8 _ (by omega), Lib.bitLen_shift8 x (by omega) h]; omega
  · rw [e8 _ (by omega)]
theorem szN_short (x : Nat) : x < 18446744073709551616 → szN (x : Int) = ((short x).length : Int) := by
  induction x using Nat.strongRecOn with
  | ind x ih =>
    intro h
    by_cases hx : x < 128
    · rw [short_lt hx, szN, lenN_bits x h]
      have := Lib.bitLen_le x 7 (by decide) (by omega)
      simp only [List.length_singleton]
      omega
    · have h1 := ih (x / 128) (by omega) (by omega)
      rw [short_ge hx, List.length_cons, szN, lenN_bits x h, Lib.bitLen_shift 7 x (by omega) h]
      rw [szN, lenN_bits _ (by omega)] at h1
      have h2 := Lib.bitLen_half (x / 128) (by omega) (by omega)
      rw [show x / 2 ^ 7 = x / 128 from rfl]
      omega
theorem idx0 (a b c d : Int) (w : World) : (Instr.index 62 (.agg #[.int .u64 a, .int .u64 b, .int .u64 c, .int .u64 d]) (.int .i64 0)).run Try.prog w = .ok (.int .u64 a) w := by kernel_rfl
theorem idx1 (a b c d : Int) (w : World) : (Instr.index 62 (.agg #[.int .u64 a, .int .u64 b, .int .u64 c, .int .u64 d]) (.int .i64 1)).run Try.prog w = .ok (.int .u64 b) w := by kernel_rfl
theorem idx2 (a b c d : Int) (w : World) : (Instr.index 62 (.agg #[.int .u64 a, .int .u64 b, .int .u64 c, .int .u64 d]) (.int .i64 2)).run Try.prog w = .ok (.int .u64 c) w := by kernel_rfl
theorem idx3 (a b c d : Int) (w : World) : (Instr.index 62 (.agg #[.int .u64 a, .int .u64 b, .int .u64 c, .int .u64 d]) (.int .i64 3)).run Try.prog w = .ok (.int .u64 d) w := by kernel_rfl
/-- The numbers ahead of an entry's bytes. -/
def numsOf (s : Nat) (e : Ent) : List Nat := [s, e.key.length - s, e.seq * 4 + e.kind.toNat, e.val.length]
theorem info62 : (Try.prog.info? 62).map (·.size) = some 4 := by kernel_rfl
theorem numbers_any (x : Tow) (hc : chk1 x.e = 0) (s : Nat) (hs : s ≤ x.e.key.length) (w : World) :
    Calls Try.prog 35 #[.agg #[x.kv, .int .u64 (x.e.seq : Nat), .int .i64 x.e.kind, x.vv], .int .i64 (s : Nat)] w fun e w' => e = .returned (.agg #[.int .u64 (s : Nat), .int .u64 ((x.e.key.length - s : Nat) : Int), .int .u64 ((x.e.seq * 4 + x.e.kind.toNat : Nat) : Int), .int .u64 (x.e.val.length : Nat)]) ∧ Below w.heap.size w w' := by
  obtain ⟨h1, h2, h3, h4, h5, h6⟩ := chk1_fine hc
  obtain ⟨ka, kc, va, vc, key, seq, kind, val⟩ := x
  simp only [Tow.kv, Tow.vv] at *
  clear hc h4
  generalize key.length = L at *
  generalize val.length = V at *
  have h3' : kind = 1 ∨ kind = 2 := by rcases h3 with x | ⟨x, _⟩ <;> simp [x]
  obtain ⟨k, rfl, hk⟩ : ∃ k : Nat, kind = (k : Int) ∧ k ≤ 2 := ⟨kind.toNat, by omega, by omega⟩
  clear h3 h3'
  rw [Int.toNat_natCast]
  have b0 := (Below.refl w.heap.size w).alloc (Nat.le_refl _) (.cells #[.slice ka L kc, .int .u64 (seq : Nat), .int .i64 (k : Nat), .slice va V vc] 28)
  have b1 := b0.alloc b0.size (.cells #[.int .u64 0, .int .u64 0, .int .u64 0, .int .u64 0] 62)
  have n1 := heap_alloc_new (w.alloc (.cells #[.slice ka L kc, .int .u64 (seq : Nat), .int .i64 (k : Nat), .slice va V vc] 28)) (.cells #[.int .u64 0, .int .u64 0, .int .u64 0, .int .u64 0] 62)
  rw [World.size_alloc] at n1
  have B1 := hide b1
  have N1 := hide n1
  clear b0 b1 n1
  go_enter Try.func35, Try.ntmps35
  go_wp2_with fail
  refine bodyPost_ret (v := .agg #[.int .u64 (s : Nat), .int .u64 ((L : Int) - s), .int .u64 ((seq : Int) * 4 + k), .int .u64 (V : Nat)]) ?_ rfl ?_
  · have n2 := heap_alloc_new (w.alloc (.cells #[.slice ka L kc, .int .u64 (seq : Nat), .int .i64 (k : Nat), .slice va V vc] 28)) (.cells #[.int .u64 (s : Nat), .int .u64 ((L : Int) - s), .int .u64 ((seq : Int) * 4 + k), .int .u64 (V : Nat)] 62)
    rw [World.size_alloc] at n2
    exact results_cell_row Try.results35 _ _ _ _ _ _ _ rfl n2 Try.underlying62 rfl info62
  · refine ⟨?_, ((Below.refl w.heap.size w).alloc (Nat.le_refl _) _).alloc (by simp) _⟩
    rw [show ((L - s : Nat) : Int) = (L : Int) - s by omega, show ((seq * 4 + k : Nat) : Int) = (seq : Int) * 4 + k by omega]
theorem numsOf_lt {s : Nat} {e : Ent} (hc : chk1 e = 0) (hs : s ≤ e.key.length) : ∀ y ∈ numsOf s e, y < 18446744073709551616 := by
  obtain ⟨h1, h2, h3, h4, h5, h6⟩ := chk1_fine hc
  have : e.kind.toNat ≤ 2 := by rcases h3 with x | ⟨x, _⟩ <;> rw [x] <;> decide
  intro y hy
  simp only [numsOf, List.mem_cons, List.not_mem_nil, or_false] at hy
  rcases hy with rfl | rfl | rfl | rfl <;> omega
/-- How many bytes the first numbers have. -/
def lens (l : List Nat) : Nat := (l.map fun x => (short x).length).sum
theorem lens_snoc (l : List Nat) (x : Nat) : lens (l ++ [x]) = lens l + (short x).length := by simp [lens]
theorem lens_le : ∀ l : List Nat, (∀ y ∈ l, y < 18446744073709551616) → lens l ≤ 10 * l.length
  | [], _ => by simp [lens]
  | x :: r, h => by
    have h1 := lens_le r fun y hy => h y (by simp [hy])
    have h2 := short_len x (h x (by simp))
    simp only [lens, List.map_cons, List.sum_cons, List.length_cons] at h1 ⊢
    omega
theorem entB_len (s : Nat) (e : Ent) : (entB s e).length = e.key.length - s + e.val.length + lens (numsOf s e) := by
  simp only [entB, lens, numsOf, List.length_append, List.length_drop, List.map_cons, List.map_nil, List.sum_cons, List.sum_nil]
  omega
theorem entrySize_any (x : Tow) (hc : chk1 x.e = 0) (s : Nat) (hs : s ≤ x.e.key.length) (w : World) :
    Calls Try.prog 27 #[.agg #[x.kv, .int .u64 (x.e.seq : Nat), .int .i64 x.e.kind, x.vv], .int .i64 (s : Nat)] w fun e w' => e = .returned (.int .i64 ((entB s x.e).length : Nat)) ∧ Below w.heap.size w w' := by
  obtain ⟨h1, h2, h3, h4, h5, h6⟩ := chk1_fine hc
  have hlen := entB_len s x.e
  have hnl := numsOf_lt hc hs
  have hN : numsOf s x.e = [s, x.e.key.length - s, x.e.seq * 4 + x.e.kind.toNat, x.e.val.length] := rfl
  have HN := hide (fun u => numbers_any x hc s hs u)
  have HLEN := hide hlen
  generalize numsOf s x.e = ns at *
  have HNL := hide hnl
  have HNS := hide hN
  generalize (entB s x.e).length = EL at *
  obtain ⟨ka, kc, va, vc, key, seq, kind, val⟩ := x
  simp only [Tow.kv, Tow.vv] at *
  have b0 := (Below.refl w.heap.size w).alloc (Nat.le_refl _) (.cells #[.slice ka key.length kc, .int .u64 (seq : Nat), .int .i64 kind, .slice va val.length vc] 28)
  have B0 := hide b0
  clear hc h1 h2 h3 h4 hlen hnl hN b0
  generalize key.length = L at *
  generalize val.length = V at *
  generalize hX : seq * 4 + kind.toNat = X at *
  clear hX
  go_enter Try.func27, Try.ntmps27
  go_wp2_with fail
  refine (HN.out _).mono ?_
  rintro e w1 ⟨rfl, b1⟩
  have B1 := hide (B0.out.trans (b1.mono B0.out.size))
  clear b1
  go_wp2_with fail
  go_loopw [5, 20] (fun v i wr => ∃ k : Nat, v = .int .i64 ((L - s + V + lens (ns.take k) : Nat) : Int) ∧ i = .int .i64 (k : Nat) ∧ k ≤ 4 ∧ Below w.heap.size w wr) (fun _ i _ => 4 - (intOf i).toNat)
  case atStart => exact ⟨0, by rw [show ((L - s + V + lens (ns.take 0) : Nat) : Int) = (L : Int) - s + V by simp [lens]; omega], rfl, by omega, B1.out⟩
  case round =>
    obtain ⟨k, rfl, rfl, hk, hb⟩ := hrel
    have HB := hide hb
    clear hb
    have hle := lens_le (ns.take k) fun y hy => HNL.out y (List.mem_of_mem_take hy)
    rw [List.length_take] at hle
    have hcase : k = 0 ∨ k = 1 ∨ k = 2 ∨ k = 3 ∨ k = 4 := by omega
    have step : ∀ j y, ns[j]? = some y → lens (ns.take (j + 1)) = lens (ns.take j) + (short y).length := fun j y hy => by
      obtain ⟨hj, e⟩ := List.getElem?_eq_some_iff.1 hy
      rw [List.take_succ_eq_append_getElem hj, lens_snoc, e]
    have STEP := hide step
    have hbd : L - s + V + lens (ns.take k) ≤ 100000 := by omega
    clear hle step
    generalize hT : lens (ns.take k) = T at *
    have HT := hide hT
    clear hT
    rcases hcase with rfl | rfl | rfl | rfl | rfl
    · have hy := HNL.out s (by rw [HNS.out]; simp)
      have st := STEP.out 0 s (by rw [HNS.out]; rfl)
      rw [HT.out] at st
      have ST := hide st
      have hl := short_len s hy
      have hz := szN_short s hy
      have ix := idx0 (s : Nat) ((L - s : Nat) : Int) (X : Nat) (V : Nat)
      clear st
      go_wp2_with fail
      refine (size_any s hy _).mono ?_
      rintro e w2 ⟨rfl, rfl⟩
      rw [hz]
      generalize (short s).length = Y at *
      clear hz ix
      go_wp2_with fail
      go_roundw
      case rel => exact ⟨0 + 1, by rw [ST.out]; go_num, by go_num, by omega, HB.out⟩
      case measure => simp [intOf]
    · have hy := HNL.out (L - s) (by rw [HNS.out]; simp)
      have st := STEP.out 1 (L - s) (by rw [HNS.out]; rfl)
      rw [HT.out] at st
      have ST := hide st
      have hl := short_len (L - s) hy
      have hz := szN_short (L - s) hy
      have ix := idx1 (s : Nat) ((L - s : Nat) : Int) (X : Nat) (V : Nat)
      clear st
      go_wp2_with fail
      refine (size_any (L - s) hy _).mono ?_
      rintro e w2 ⟨rfl, rfl⟩
      rw [hz]
      generalize (short (L - s)).length = Y at *
      clear hz ix
      go_wp2_with fail
      go_roundw
      case rel => exact ⟨1 + 1, by rw [ST.out]; go_num, by go_num, by omega, HB.out⟩
      case measure => simp [intOf]
    · have hy := HNL.out X (by rw [HNS.out]; simp)
      have st := STEP.out 2 X (by rw [HNS.out]; rfl)
      rw [HT.out] at st
      have ST := hide st
      have hl := short_len X hy
      have hz := szN_short X hy
      have ix := idx2 (s : Nat) ((L - s : Nat) : Int) (X : Nat) (V : Nat)
      clear st
      go_wp2_with fail
      refine (size_any X hy _).mono ?_
      rintro e w2 ⟨rfl, rfl⟩
      rw [hz]
      generalize (short X).length = Y at *
      clear hz ix
      go_wp2_with fail
      go_roundw
      case rel => exact ⟨2 + 1, by rw [ST.out]; go_num, by go_num, by omega, HB.out⟩
      case measure => simp [intOf]
    · have hy := HNL.out V (by rw [HNS.out]; simp)
      have st := STEP.out 3 V (by rw [HNS.out]; rfl)
      rw [HT.out] at st
      have ST := hide st
      have hl := short_len V hy
      have hz := szN_short V hy
      have ix := idx3 (s : Nat) ((L - s : Nat) : Int) (X : Nat) (V : Nat)
      clear st
      go_wp2_with fail
      refine (size_any V hy _).mono ?_
      rintro e w2 ⟨rfl, rfl⟩
      rw [hz]
      generalize (short V).length = Y at *
      clear hz ix
      go_wp2_with fail
      go_roundw
      case rel => exact ⟨3 + 1, by rw [ST.out]; go_num, by go_num, by omega, HB.out⟩
      case measure => simp [intOf]
    · go_wp2_with fail
      go_ret
      refine ⟨?_, HB.out⟩
      have h1 := HT.out
      rw [List.take_of_length_le (by rw [HNS.out]; simp)] at h1
      rw [HLEN.out, h1]
      rfl
end Go.Proofs.Ytolaaodhnhdadaa
