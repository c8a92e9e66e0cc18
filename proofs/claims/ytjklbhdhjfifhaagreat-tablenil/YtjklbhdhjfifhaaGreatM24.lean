import Derived.Test.YtjklbhdhjfifhaaGreatM17
import Derived.Test.YtjklbhdhjfifhaaGreatM23
import Derived.Test.YtjklbhdhjfifhaaGreatM19
import Derived.Laws.Tables
import Derived.Laws.Rows
import Derived.Test.YtjklbhdhjfifhaaGreatM16
/-
  Small functions of blocks: isRestart, alike, shared.
-/
namespace Go.Proofs.YtjklbhdhjfifhaaGreat
open Go.RowKit
set_option maxRecDepth 100000
set_option maxHeartbeats 4000000
theorem isRestart_any (i : Nat) (w : World) : Calls Tryz.prog 151 #[.int .i64 (i : Nat)] w fun e w' => e = .returned (.bool (decide (i % 16 = 0))) ∧ w' = w := by
  go_enter Tryz.func151, Tryz.ntmps151
  go_wp2_with fail
  go_ret
  refine ⟨congrArg Ending.returned (congrArg Value.bool ?_), rfl⟩
  exact Bool.eq_iff_iff.2 ⟨fun h => decide_eq_true (by have := eq_of_beq h; omega), fun h => by have := of_decide_eq_true h; exact beq_iff_eq.2 (by omega)⟩
/-- The bytes that are alike end here. -/
theorem alike_at : ∀ (k : Nat) (x y : List (BitVec 8)), k ≤ x.length → k ≤ y.length → x.take k = y.take k → (∀ (h1 : k < x.length) (h2 : k < y.length), x[k] ≠ y[k]) → alike x y = k
  | 0, [], y, _, _, _, _ => by cases y <;> rfl
  | 0, a :: l, [], _, _, _, _ => rfl
  | 0, a :: l, b :: r, _, _, _, h => by
    have := h (by simp) (by simp)
    simp only [List.getElem_cons_zero] at this
    simp [alike, this]
  | k + 1, a :: l, b :: r, h1, h2, h3, h4 => by
    simp only [List.take_succ_cons, List.cons.injEq] at h3
    have := alike_at k l r (by simpa using h1) (by simpa using h2) h3.2 (fun q1 q2 => by
      have := h4 (by simpa using q1) (by simpa using q2)
      simpa using this)
    simp [alike, h3.1, this]
  | k + 1, [], y, h1, _, _, _ => by simp at h1
  | k + 1, a :: l, [], _, h2, _, _ => by simp at h2
theorem alike_any (a a' : Option Addr) (n n' c c' : Nat) (x y : List (BitVec 8)) (w : World) (h : Bytes w (.slice a n c) x) (h' : Bytes w (.slice a' n' c') y) (hn : n ≤ 1000000000) (hn' : n' ≤ 1000000000) :
    Calls Tryz.prog 184 #[.slice a n c, .slice a' n' c'] w fun e w' => e = .returned (.int .i64 (alike x y : Nat)) ∧ ∃ m, w' = w.drewN m := by
  have hl := h.len
  have hl' := h'.len
  have H := hide h
  have H' := hide h'
  have HL := hide hl
  have HL' := hide hl'
  clear h h' hl hl'
  go_enter Tryz.func184, Tryz.ntmps184
  go_wp2_with fail
  go_loopw [5] (fun i wr => ∃ k : Nat, i = .int .i64 (k : Nat) ∧ k ≤ n ∧ k ≤ n' ∧ x.take k = y.take k ∧ ∃ m, wr = w.drewN m) (fun i _ => n - (intOf i).toNat)
  case atStart => exact ⟨0, rfl, Nat.zero_le _, Nat.zero_le _, rfl, 0, rfl⟩
  case round =>
    obtain ⟨k, rfl, hk, hk', htk, m, rfl⟩ := hrel
    have HTK := hide htk
    clear htk
    by_cases hkn : k < n
    · by_cases hkn' : k < n'
      · obtain ⟨b, off, rfl⟩ := H.out.addr (by omega)
        obtain ⟨b', off', rfl⟩ := H'.out.addr (by omega)
        have hkx : k < x.length := by have := HL.out; omega
        have hky : k < y.length := by have := HL'.out; omega
        have h1 := H.out.at k hkx
        have h2 := H'.out.at k hky
        have e1 : x.getD k 0 = x[k] := by simp [List.getD, hkx]
        have e2 : y.getD k 0 = y[k] := by simp [List.getD, hky]
        rw [e1] at h1
        rw [e2] at h2
        have i1 : (k : Int) < (n : Int) := by omega
        have i2 : (k : Int) < (n' : Int) := by omega
        have i0 : (0 : Int) ≤ (k : Int) := by omega
        clear e1 e2
        by_cases hxy : x[k] = y[k]
        · have HT2 := hide (take_eq_succ hkx hky HTK.out hxy)
          rw [← hxy] at h2
          generalize x[k].toNat = q at *
          clear hxy
          go_wp2_with fail
          go_quiet (fail)
          go_wp2
          go_roundw
          case rel => exact ⟨k + 1, by go_num, by omega, by omega, HT2.out, _, rfl⟩
          case measure => simp [intOf]; omega
        · have hne : x[k].toNat ≠ y[k].toNat := fun e => hxy (BitVec.eq_of_toNat_eq e)
          have hal : alike x y = k := alike_at k x y (by omega) (by omega) HTK.out fun _ _ => hxy
          have HAL := hide hal
          generalize x[k].toNat = q at *
          generalize y[k].toNat = q' at *
          have hne' : ¬ (q : Int) = (q' : Int) := by omega
          clear hxy hal hne
          go_wp2_with fail
          go_quiet (fail)
          go_wp2
          go_ret
          exact ⟨by rw [HAL.out]; rfl, _, World.drewN_drewN _ _ _⟩
      · have hal : alike x y = k := alike_at k x y (by have := HL.out; omega) (by have := HL'.out; omega) HTK.out fun _ h2 => by have := HL'.out; omega
        have HAL := hide hal
        have i1 : (k : Int) < (n : Int) := by omega
        have i2 : ¬ (k : Int) < (n' : Int) := by omega
        clear hal
        go_wp2_with fail
        go_quiet (fail)
        go_wp2
        go_ret
        exact ⟨by rw [HAL.out]; rfl, _, World.drewN_drewN _ _ _⟩
    · have hal : alike x y = k := alike_at k x y (by have := HL.out; omega) (by have := HL'.out; omega) HTK.out fun h1 _ => by have := HL.out; omega
      have HAL := hide hal
      have i1 : ¬ (k : Int) < (n : Int) := by omega
      clear hal
      go_wp2_with fail
      go_quiet (fail)
      go_wp2
      go_ret
      exact ⟨by rw [HAL.out]; rfl, _, World.drewN_drewN _ _ _⟩
def prevK (l : List Tow) (i : Nat) : List (BitVec 8) := match i with | 0 => [] | j + 1 => ((l[j]?).map (·.e.key)).getD []
theorem shared_any (a : Option Addr) (n c : Nat) (l : List Tow) (w : World) (h : Ents w a l) (i : Nat) (x : Tow) (hx : l[i]? = some x) (hn : n = l.length) (hmx : n ≤ 1000000000) (hb : ∀ x, x ∈ l → x.e.key.length ≤ 1000000) :
    Calls Tryz.prog 153 #[.slice a n c, .int .i64 (i : Nat)] w fun e w' => e = .returned (.int .i64 (shr i (prevK l i) x.e.key : Nat)) ∧ ∃ m, w' = w.drewN m := by
  have hil : i < l.length := (List.getElem?_eq_some_iff.1 hx).1
  by_cases hi : i % 16 = 0
  · have hs : shr i (prevK l i) x.e.key = 0 := by rw [shr, if_pos hi]
    have HS := hide hs
    clear hs h hx
    go_enter Tryz.func153, Tryz.ntmps153
    go_wp2_with fail
    refine (isRestart_any i w).mono ?_
    rintro e w1 ⟨rfl, rfl⟩
    rw [decide_eq_true hi]
    go_wp2_with fail
    go_ret
    exact ⟨by rw [HS.out]; rfl, 0, rfl⟩
  · have hs : shr i (prevK l i) x.e.key = alike (prevK l i) x.e.key := by rw [shr, if_neg hi]
    obtain ⟨j, rfl⟩ : ∃ j, i = j + 1 := ⟨i - 1, by omega⟩
    have hj : j < l.length := by omega
    have hp : prevK l (j + 1) = l[j].e.key := by simp [prevK, hj]
    rw [hp] at hs
    have hs2 : shr (j + 1) (prevK l (j + 1)) x.e.key = alike l[j].e.key x.e.key := by rw [hp]; exact hs
    have HS := hide hs2
    clear hs2
    obtain ⟨⟨b, off, rfl, hc⟩, k1, k2⟩ := h j l[j] (List.getElem?_eq_getElem hj)
    obtain ⟨⟨b', off', e', hc'⟩, k3, k4⟩ := h (j + 1) x hx
    have hb1 := hb l[j] (List.getElem_mem hj)
    have hb2 := hb x (List.mem_iff_getElem?.2 ⟨_, hx⟩)
    have c0 : w.cell? ⟨b, off + j * 4, none⟩ = some l[j].kv := hc 0 _ rfl
    cases e'
    have d0 : w.cell? ⟨b, off + (j + 1) * 4, none⟩ = some x.kv := hc' 0 _ rfl
    have HK1 := hide k1
    have HK3 := hide k3
    have i0 : (0 : Int) ≤ (j : Int) := by omega
    have i1 : (j : Int) < (n : Int) := by omega
    have i2 : ((j + 1 : Nat) : Int) < (n : Int) := by omega
    have i3 : (0 : Int) ≤ ((j + 1 : Nat) : Int) := by omega
    generalize l[j] = y at *
    obtain ⟨ka, kc, va, vc, e⟩ := y
    obtain ⟨ka', kc', va', vc', e'⟩ := x
    simp only [Tow.kv] at c0 d0 HK1 HK3
    simp only at hb1 hb2 HS
    have ej : ((j + 1 : Nat) : Int) - 1 = (j : Int) := by omega
    have HQ := hide (fun m => alike_any ka ka' e.key.length e'.key.length kc kc' e.key e'.key (w.drewN m) (HK1.out.drewN m) (HK3.out.drewN m) (by omega) (by omega))
    clear hc hc' k1 k2 k3 k4 hs hx hp
    go_enter Tryz.func153, Tryz.ntmps153
    go_wp2_with fail
    refine (isRestart_any (j + 1) w).mono ?_
    rintro e w1 ⟨rfl, rfl⟩
    rw [decide_eq_false hi]
    go_wp2_with fail
    go_quiet (first | (go_at_call 184; exact Calls.quiet_of (HQ.out _)))
    go_wp2
    go_ret
    exact ⟨by rw [HS.out]; rfl, _, rfl⟩
end Go.Proofs.YtjklbhdhjfifhaaGreat

/-
  The numbers of an entry; how many bytes it has.
-/
namespace Go.Proofs.YtjklbhdhjfifhaaGreat
open Go.RowKit
set_option maxRecDepth 100000
set_option maxHeartbeats 4000000
theorem lenN_bits (x : Nat) (h : x < 18446744073709551616) : lenN (x : Int) = (Lib.bitLen x : Int) := by
  have e8 : ∀ y : Nat, y < 256 → by8 (y : Int) = (Lib.bitLen y : Int) := fun y hy => by
    unfold by8
    rw [show ((y : Int) % 256).toNat = y by omega]
  unfold lenN
  have d1 : (x : Int) / 4294967296 = ((x / 4294967296 : Nat) : Int) := by omega
  have d2 : (x : Int) / 4294967296 / 65536 = ((x / 281474976710656 : Nat) : Int) := by omega
  have d3 : (x : Int) / 4294967296 / 65536 / 256 = ((x / 72057594037927936 : Nat) : Int) := by omega
  have d4 : (x : Int) / 4294967296 / 256 = ((x / 1099511627776 : Nat) : Int) := by omega
  have d5 : (x : Int) / 65536 = ((x / 65536 : Nat) : Int) := by omega
  have d6 : (x : Int) / 65536 / 256 = ((x / 16777216 : Nat) : Int) := by omega
  have d7 : (x : Int) / 256 = ((x / 256 : Nat) : Int) := by omega
  rw [d3, d2, d4, d1, d6, d5, d7]
  repeat' split
  · rw [e8 _ (by omega), Lib.bitLen_shift56 x (by omega) h]; omega
  · rw [e8 _ (by omega), Lib.bitLen_shift48 x (by omega) h]; omega
  · rw [e8 _ (by omega), Lib.bitLen_shift40 x (by omega) h]; omega
  · rw [e8 _ (by omega), Lib.bitLen_shift32 x (by omega) h]; omega
  · rw [e8 _ (by omega), Lib.bitLen_shift24 x (by omega) h]; omega
  · rw [e8 _ (by omega), Lib.bitLen_shift16 x (by omega) h]; omega
  · rw [e8 _ (by omega), Lib.bitLen_shift8 x (by omega) h]; omega
  · rw [e8 _ (by omega)]
theorem szN_short (x : Nat) : x < 18446744073709551616 → szN (x : Int) = ((short x).length : Int) := by
  induction x using Nat.strongRecOn with
  | ind x ih =>
    intro h
    by_cases hx : x < 128
    · rw [short_lt hx, szN, lenN_bits x h]
      have := Lib.bitLen_le x 7 (by decide) (by omega)
      simp only [List.length_singleton]
      omega
    · have h1 := ih (x / 128) (by omega) (by omega)
      rw [short_ge hx, List.length_cons, szN, lenN_bits x h, Lib.bitLen_shift 7 x (by omega) h]
      rw [szN, lenN_bits _ (by omega)] at h1
      have h2 := Lib.bitLen_half (x / 128) (by omega) (by omega)
      rw [show x / 2 ^ 7 = x / 128 from rfl]
      omega
theorem idx0 (a b c d : Int) (w : World) : (Instr.index 229 (.agg #[.int .u64 a, .int .u64 b, .int .u64 c, .int .u64 d]) (.int .i64 0)).run Tryz.prog w = .ok (.int .u64 a) w := by kernel_rfl
theorem idx1 (a b c d : Int) (w : World) : (Instr.index 229 (.agg #[.int .u64 a, .int .u64 b, .int .u64 c, .int .u64 d]) (.int .i64 1)).run Tryz.prog w = .ok (.int .u64 b) w := by kernel_rfl
theorem idx2 (a b c d : Int) (w : World) : (Instr.index 229 (.agg #[.int .u64 a, .int .u64 b, .int .u64 c, .int .u64 d]) (.int .i64 2)).run Tryz.prog w = .ok (.int .u64 c) w := by kernel_rfl
theorem idx3 (a b c d : Int) (w : World) : (Instr.index 229 (.agg #[.int .u64 a, .int .u64 b, .int .u64 c, .int .u64 d]) (.int .i64 3)).run Tryz.prog w = .ok (.int .u64 d) w := by kernel_rfl
/-- The numbers ahead of an entry's bytes. -/
def numsOf (s : Nat) (e : Ent) : List Nat := [s, e.key.length - s, e.seq * 4 + e.kind.toNat, e.val.length]
theorem info62 : (Tryz.prog.info? 229).map (·.size) = some 4 := by kernel_rfl
theorem numbers_any (x : Tow) (hc : chk1 x.e = 0) (s : Nat) (hs : s ≤ x.e.key.length) (w : World) :
    Calls Tryz.prog 183 #[.agg #[x.kv, .int .u64 (x.e.seq : Nat), .int .i64 x.e.kind, x.vv], .int .i64 (s : Nat)] w fun e w' => e = .returned (.agg #[.int .u64 (s : Nat), .int .u64 ((x.e.key.length - s : Nat) : Int), .int .u64 ((x.e.seq * 4 + x.e.kind.toNat : Nat) : Int), .int .u64 (x.e.val.length : Nat)]) ∧ Below w.heap.size w w' := by
  obtain ⟨h1, h2, h3, h4, h5, h6⟩ := chk1_fine hc
  obtain ⟨ka, kc, va, vc, key, seq, kind, val⟩ := x
  simp only [Tow.kv, Tow.vv] at *
  clear hc h4
  generalize key.length = L at *
  generalize val.length = V at *
  have h3' : kind = 1 ∨ kind = 2 := by rcases h3 with x | ⟨x, _⟩ <;> simp [x]
  obtain ⟨k, rfl, hk⟩ : ∃ k : Nat, kind = (k : Int) ∧ k ≤ 2 := ⟨kind.toNat, by omega, by omega⟩
  clear h3 h3'
  rw [Int.toNat_natCast]
  have b0 := (Below.refl w.heap.size w).alloc (Nat.le_refl _) (.cells #[.slice ka L kc, .int .u64 (seq : Nat), .int .i64 (k : Nat), .slice va V vc] 35)
  have b1 := b0.alloc b0.size (.cells #[.int .u64 0, .int .u64 0, .int .u64 0, .int .u64 0] 229)
  have n1 := heap_alloc_new (w.alloc (.cells #[.slice ka L kc, .int .u64 (seq : Nat), .int .i64 (k : Nat), .slice va V vc] 35)) (.cells #[.int .u64 0, .int .u64 0, .int .u64 0, .int .u64 0] 229)
  rw [World.size_alloc] at n1
  have B1 := hide b1
  have N1 := hide n1
  clear b0 b1 n1
  go_enter Tryz.func183, Tryz.ntmps183
  go_wp2_with fail
  refine bodyPost_ret (v := .agg #[.int .u64 (s : Nat), .int .u64 ((L : Int) - s), .int .u64 ((seq : Int) * 4 + k), .int .u64 (V : Nat)]) ?_ rfl ?_
  · have n2 := heap_alloc_new (w.alloc (.cells #[.slice ka L kc, .int .u64 (seq : Nat), .int .i64 (k : Nat), .slice va V vc] 35)) (.cells #[.int .u64 (s : Nat), .int .u64 ((L : Int) - s), .int .u64 ((seq : Int) * 4 + k), .int .u64 (V : Nat)] 229)
    rw [World.size_alloc] at n2
    exact results_cell_row Tryz.results183 _ _ _ _ _ _ _ rfl n2 Tryz.underlying229 rfl info62
  · refine ⟨?_, ((Below.refl w.heap.size w).alloc (Nat.le_refl _) _).alloc (by simp) _⟩
    rw [show ((L - s : Nat) : Int) = (L : Int) - s by omega, show ((seq * 4 + k : Nat) : Int) = (seq : Int) * 4 + k by omega]
theorem numsOf_lt {s : Nat} {e : Ent} (hc : chk1 e = 0) (hs : s ≤ e.key.length) : ∀ y ∈ numsOf s e, y < 18446744073709551616 := by
  obtain ⟨h1, h2, h3, h4, h5, h6⟩ := chk1_fine hc
  have : e.kind.toNat ≤ 2 := by rcases h3 with x | ⟨x, _⟩ <;> rw [x] <;> decide
  intro y hy
  simp only [numsOf, List.mem_cons, List.not_mem_nil, or_false] at hy
  rcases hy with rfl | rfl | rfl | rfl <;> omega
/-- How many bytes the first numbers have. -/
def lens (l : List Nat) : Nat := (l.map fun x => (short x).length).sum
theorem lens_snoc (l : List Nat) (x : Nat) : lens (l ++ [x]) = lens l + (short x).length := by simp [lens]
theorem lens_le : ∀ l : List Nat, (∀ y ∈ l, y < 18446744073709551616) → lens l ≤ 10 * l.length
  | [], _ => by simp [lens]
  | x :: r, h => by
    have h1 := lens_le r fun y hy => h y (by simp [hy])
    have h2 := short_len x (h x (by simp))
    simp only [lens, List.map_cons, List.sum_cons, List.length_cons] at h1 ⊢
    omega
theorem entB_len (s : Nat) (e : Ent) : (entB s e).length = e.key.length - s + e.val.length + lens (numsOf s e) := by
  simp only [entB, lens, numsOf, List.length_append, List.length_drop, List.map_cons, List.map_nil, List.sum_cons, List.sum_nil]
  omega
theorem entrySize_any (x : Tow) (hc : chk1 x.e = 0) (s : Nat) (hs : s ≤ x.e.key.length) (w : World) :
    Calls Tryz.prog 182 #[.agg #[x.kv, .int .u64 (x.e.seq : Nat), .int .i64 x.e.kind, x.vv], .int .i64 (s : Nat)] w fun e w' => e = .returned (.int .i64 ((entB s x.e).length : Nat)) ∧ Below w.heap.size w w' := by
  obtain ⟨h1, h2, h3, h4, h5, h6⟩ := chk1_fine hc
  have hlen := entB_len s x.e
  have hnl := numsOf_lt hc hs
  have hN : numsOf s x.e = [s, x.e.key.length - s, x.e.seq * 4 + x.e.kind.toNat, x.e.val.length] := rfl
  have HN := hide (fun u => numbers_any x hc s hs u)
  have HLEN := hide hlen
  generalize numsOf s x.e = ns at *
  have HNL := hide hnl
  have HNS := hide hN
  generalize (entB s x.e).length = EL at *
  obtain ⟨ka, kc, va, vc, key, seq, kind, val⟩ := x
  simp only [Tow.kv, Tow.vv] at *
  have b0 := (Below.refl w.heap.size w).alloc (Nat.le_refl _) (.cells #[.slice ka key.length kc, .int .u64 (seq : Nat), .int .i64 kind, .slice va val.length vc] 35)
  have B0 := hide b0
  clear hc h1 h2 h3 h4 hlen hnl hN b0
  generalize key.length = L at *
  generalize val.length = V at *
  generalize hX : seq * 4 + kind.toNat = X at *
  clear hX
  go_enter Tryz.func182, Tryz.ntmps182
  go_wp2_with fail
  refine (HN.out _).mono ?_
  rintro e w1 ⟨rfl, b1⟩
  have B1 := hide (B0.out.trans (b1.mono B0.out.size))
  clear b1
  go_wp2_with fail
  go_loopw [5, 20] (fun v i wr => ∃ k : Nat, v = .int .i64 ((L - s + V + lens (ns.take k) : Nat) : Int) ∧ i = .int .i64 (k : Nat) ∧ k ≤ 4 ∧ Below w.heap.size w wr) (fun _ i _ => 4 - (intOf i).toNat)
  case atStart => exact ⟨0, by rw [show ((L - s + V + lens (ns.take 0) : Nat) : Int) = (L : Int) - s + V by simp [lens]; omega], rfl, by omega, B1.out⟩
  case round =>
    obtain ⟨k, rfl, rfl, hk, hb⟩ := hrel
    have HB := hide hb
    clear hb
    have hle := lens_le (ns.take k) fun y hy => HNL.out y (List.mem_of_mem_take hy)
    rw [List.length_take] at hle
    have hcase : k = 0 ∨ k = 1 ∨ k = 2 ∨ k = 3 ∨ k = 4 := by omega
    have step : ∀ j y, ns[j]? = some y → lens (ns.take (j + 1)) = lens (ns.take j) + (short y).length := fun j y hy => by
      obtain ⟨hj, e⟩ := List.getElem?_eq_some_iff.1 hy
      rw [List.take_succ_eq_append_getElem hj, lens_snoc, e]
    have STEP := hide step
    have hbd : L - s + V + lens (ns.take k) ≤ 100000 := by omega
    clear hle step
    generalize hT : lens (ns.take k) = T at *
    have HT := hide hT
    clear hT
    rcases hcase with rfl | rfl | rfl | rfl | rfl
    · have hy := HNL.out s (by rw [HNS.out]; simp)
      have st := STEP.out 0 s (by rw [HNS.out]; rfl)
      rw [HT.out] at st
      have ST := hide st
      have hl := short_len s hy
      have hz := szN_short s hy
      have ix := idx0 (s : Nat) ((L - s : Nat) : Int) (X : Nat) (V : Nat)
      clear st
      go_wp2_with fail
      refine (size_any s hy _).mono ?_
      rintro e w2 ⟨rfl, rfl⟩
      rw [hz]
      generalize (short s).length = Y at *
      clear hz ix
      go_wp2_with fail
      go_roundw
      case rel => exact ⟨0 + 1, by rw [ST.out]; go_num, by go_num, by omega, HB.out⟩
      case measure => simp [intOf]
    · have hy := HNL.out (L - s) (by rw [HNS.out]; simp)
      have st := STEP.out 1 (L - s) (by rw [HNS.out]; rfl)
      rw [HT.out] at st
      have ST := hide st
      have hl := short_len (L - s) hy
      have hz := szN_short (L - s) hy
      have ix := idx1 (s : Nat) ((L - s : Nat) : Int) (X : Nat) (V : Nat)
      clear st
      go_wp2_with fail
      refine (size_any (L - s) hy _).mono ?_
      rintro e w2 ⟨rfl, rfl⟩
      rw [hz]
      generalize (short (L - s)).length = Y at *
      clear hz ix
      go_wp2_with fail
      go_roundw
      case rel => exact ⟨1 + 1, by rw [ST.out]; go_num, by go_num, by omega, HB.out⟩
      case measure => simp [intOf]
    · have hy := HNL.out X (by rw [HNS.out]; simp)
      have st := STEP.out 2 X (by rw [HNS.out]; rfl)
      rw [HT.out] at st
      have ST := hide st
      have hl := short_len X hy
      have hz := szN_short X hy
      have ix := idx2 (s : Nat) ((L - s : Nat) : Int) (X : Nat) (V : Nat)
      clear st
      go_wp2_with fail
      refine (size_any X hy _).mono ?_
      rintro e w2 ⟨rfl, rfl⟩
      rw [hz]
      generalize (short X).length = Y at *
      clear hz ix
      go_wp2_with fail
      go_roundw
      case rel => exact ⟨2 + 1, by rw [ST.out]; go_num, by go_num, by omega, HB.out⟩
      case measure => simp [intOf]
    · have hy := HNL.out V (by rw [HNS.out]; simp)
      have st := STEP.out 3 V (by rw [HNS.out]; rfl)
      rw [HT.out] at st
      have ST := hide st
      have hl := short_len V hy
      have hz := szN_short V hy
      have ix := idx3 (s : Nat) ((L - s : Nat) : Int) (X : Nat) (V : Nat)
      clear st
      go_wp2_with fail
      refine (size_any V hy _).mono ?_
      rintro e w2 ⟨rfl, rfl⟩
      rw [hz]
      generalize (short V).length = Y at *
      clear hz ix
      go_wp2_with fail
      go_roundw
      case rel => exact ⟨3 + 1, by rw [ST.out]; go_num, by go_num, by omega, HB.out⟩
      case measure => simp [intOf]
    · go_wp2_with fail
      go_ret
      refine ⟨?_, HB.out⟩
      have h1 := HT.out
      rw [List.take_of_length_le (by rw [HNS.out]; simp)] at h1
      rw [HLEN.out, h1]
      rfl
end Go.Proofs.YtjklbhdhjfifhaaGreat

/-
  An entry's bytes, put behind bytes of one's own.
-/
namespace Go.Proofs.YtjklbhdhjfifhaaGreat
open Go.RowKit
set_option maxRecDepth 100000
set_option maxHeartbeats 4000000
def shorts (l : List Nat) : List (BitVec 8) := l.flatMap short
theorem shorts_len (l : List Nat) : (shorts l).length = lens l := by
  induction l with
  | nil => rfl
  | cons x r ih => simp only [shorts, List.flatMap_cons, List.length_append, lens, List.map_cons, List.sum_cons] at ih ⊢; omega
theorem shorts_snoc (l : List Nat) (x : Nat) : shorts (l ++ [x]) = shorts l ++ short x := by simp [shorts]
theorem entB_shorts (s : Nat) (e : Ent) : entB s e = shorts (numsOf s e) ++ e.key.drop s ++ e.val := by
  simp [entB, shorts, numsOf]
theorem appendEntry_any (g c : Nat) (bs : List (BitVec 8)) (m : Nat) (hm : m = bs.length) (x : Tow) (hc : chk1 x.e = 0) (s : Nat) (hs : s ≤ x.e.key.length) (hcap : x.e.key.length ≤ x.kc) (w : World) (hmc : m ≤ c) (hrow : RowB w g c bs) (hb : m ≤ 600000000)
    (hkey : ∀ w', Turns (fun k => k = g) w w' → Bytes w' x.kv x.e.key) (hval : ∀ w', Turns (fun k => k = g) w w' → Bytes w' x.vv x.e.val) :
    Calls Tryz.prog 152 #[.slice (some ⟨g, 0, none⟩) m c, .agg #[x.kv, .int .u64 (x.e.seq : Nat), .int .i64 x.e.kind, x.vv], .int .i64 (s : Nat)] w fun e w' => ∃ g' c', e = .returned (.slice (some ⟨g', 0, none⟩) (m + (entB s x.e).length) c') ∧ m + (entB s x.e).length ≤ c' ∧ RowB w' g' c' (bs ++ entB s x.e) ∧ Grow g w g' w' := by
  obtain ⟨h1, h2, h3, h4, h5, h6⟩ := chk1_fine hc
  have hglt : g < w.heap.size := by
    obtain ⟨cs, h1, _⟩ := hrow
    exact lt_of_heap h1
  have hlen := entB_len s x.e
  have heq := entB_shorts s x.e
  have hnl := numsOf_lt hc hs
  have hN : numsOf s x.e = [s, x.e.key.length - s, x.e.seq * 4 + x.e.kind.toNat, x.e.val.length] := rfl
  have HN := hide (fun u => numbers_any x hc s hs u)
  have HLEN := hide hlen
  have HEQ := hide heq
  generalize numsOf s x.e = ns at *
  have HNL := hide hnl
  have HNS := hide hN
  generalize entB s x.e = EB at *
  obtain ⟨ka, kc, va, vc, key, seq, kind, val⟩ := x
  simp only [Tow.kv, Tow.vv] at *
  have b0 := (Below.refl w.heap.size w).alloc (Nat.le_refl _) (.cells #[.slice ka key.length kc, .int .u64 (seq : Nat), .int .i64 kind, .slice va val.length vc] 35)
  have hbox := heap_alloc_new w (.cells #[.slice ka key.length kc, .int .u64 (seq : Nat), .int .i64 kind, .slice va val.length vc] 35)
  have hrow0 := RowC.below hrow b0
  have HB0 := hide b0
  have HBOX := hide hbox
  have HROW := hide hrow0
  have HM := hide hm
  have HK := hide (fun w' (t : Turns (fun k => k = g) _ w') => hkey w' ((Turns.of_below b0 _).trans t))
  have HV := hide (fun w' (t : Turns (fun k => k = g) _ w') => hval w' ((Turns.of_below b0 _).trans t))
  have hsz : (w.alloc (.cells #[.slice ka key.length kc, .int .u64 (seq : Nat), .int .i64 kind, .slice va val.length vc] 35)).heap.size = w.heap.size + 1 := by simp
  have HSZ := hide hsz
  have HNE := hide h4
  clear hc h1 h2 h3 h4 hlen heq hnl hN b0 hbox hrow0 hrow hkey hval hm hsz
  generalize hL : key.length = L at *
  generalize hV : val.length = V at *
  generalize hX : seq * 4 + kind.toNat = X at *
  have HL := hide hL
  have HV' := hide hV
  clear hX hL hV
  go_enter Tryz.func152, Tryz.ntmps152
  go_wp2_with fail
  generalize w.alloc (.cells #[.slice ka L kc, .int .u64 (seq : Nat), .int .i64 kind, .slice va V vc] 35) = w0 at *
  refine (HN.out _).mono ?_
  rintro e w1 ⟨rfl, b1⟩
  have B1 := hide b1
  clear b1
  go_wp2_with fail
  go_loopw [0, 12] (fun v i wr => ∃ k g1 c1 m1 : Nat, v = .slice (some ⟨g1, 0, none⟩) m1 c1 ∧ i = .int .i64 (k : Nat) ∧ k ≤ 4 ∧ m1 = m + lens (ns.take k) ∧ m1 ≤ c1 ∧ RowB wr g1 c1 (bs ++ shorts (ns.take k)) ∧ Grow g w0 g1 wr) (fun _ i _ => 4 - (intOf i).toNat)
  case atStart => exact ⟨0, g, c, m, rfl, rfl, by omega, by simp [lens], hmc, by rw [List.take_zero]; simp only [shorts, List.flatMap_nil, List.append_nil]; exact RowC.below HROW.out B1.out, .inl rfl, Turns.of_below B1.out _⟩
  case round =>
    obtain ⟨k, g1, c1, m1, rfl, rfl, hk, hm1, hmc1, hrow1, hg1⟩ := hrel
    have hle := lens_le (ns.take k) fun y hy => HNL.out y (List.mem_of_mem_take hy)
    rw [List.length_take] at hle
    have hcase : k = 0 ∨ k = 1 ∨ k = 2 ∨ k = 3 ∨ k = 4 := by omega
    have stepL : ∀ j y, ns[j]? = some y → lens (ns.take (j + 1)) = lens (ns.take j) + (short y).length := fun j y hy => by
      obtain ⟨hj, e⟩ := List.getElem?_eq_some_iff.1 hy
      rw [List.take_succ_eq_append_getElem hj, lens_snoc, e]
    have stepS : ∀ j y, ns[j]? = some y → shorts (ns.take (j + 1)) = shorts (ns.take j) ++ short y := fun j y hy => by
      obtain ⟨hj, e⟩ := List.getElem?_eq_some_iff.1 hy
      rw [List.take_succ_eq_append_getElem hj, shorts_snoc, e]
    have SL := hide stepL
    have SS := hide stepS
    have hbd : m1 ≤ 600001000 := by omega
    have HM1 := hide hm1
    have HR1 := hide hrow1
    have HG1 := hide hg1
    clear hle stepL stepS hm1 hrow1 hg1
    rcases hcase with rfl | rfl | rfl | rfl | rfl
    · have hy := HNL.out s (by rw [HNS.out]; simp)
      have SL1 := hide (SL.out 0 s (by rw [HNS.out]; rfl))
      have SS1 := hide (SS.out 0 s (by rw [HNS.out]; rfl))
      have hl := short_len s hy
      have ix := idx0 (s : Nat) ((L - s : Nat) : Int) (X : Nat) (V : Nat)
      go_wp2_with fail
      refine (number_nil s hy _).mono ?_
      rintro e w2 ⟨gn, cn, rfl, hgn, hrown, bn⟩
      obtain ⟨g2, c2, w3, hr, hc2, hrow2, hb2⟩ := append_grow w2 g1 m1 c1 _ (by rw [List.length_append, shorts_len, ← HM.out]; exact HM1.out) (.slice (some ⟨gn, 0, none⟩) (short s).length cn) (short s) _ rfl (RowB.bytes hrown rfl) hmc1 (RowC.below HR1.out bn) (by omega)
      have HA := hide hr
      have HR2 := hide hrow2
      have HG2 := hide (HG1.out.trans (hb2.before bn))
      clear hr hrow2 hb2 hrown bn ix
      generalize hY : (short s).length = Y at *
      have HY := hide hY
      clear hY
      go_wp2_with (at_builtin; refine wpList_append_run rfl (.tmp 15) (.tmp 17) 28 rfl (.slice (some ⟨g1, 0, none⟩) m1 c1) (.slice (some ⟨gn, 0, none⟩) Y cn) rfl rfl _ _ (HA.out _) ?_)
      go_roundw
      case rel => exact ⟨0 + 1, g2, c2, m1 + Y, rfl, by go_num, by omega, by rw [SL1.out, HM1.out]; omega, hc2, by rw [SS1.out, ← List.append_assoc]; exact HR2.out, HG2.out⟩
      case measure => simp [intOf]
    · have hy := HNL.out (L - s) (by rw [HNS.out]; simp)
      have SL1 := hide (SL.out 1 (L - s) (by rw [HNS.out]; rfl))
      have SS1 := hide (SS.out 1 (L - s) (by rw [HNS.out]; rfl))
      have hl := short_len (L - s) hy
      have ix := idx1 (s : Nat) ((L - s : Nat) : Int) (X : Nat) (V : Nat)
      go_wp2_with fail
      refine (number_nil (L - s) hy _).mono ?_
      rintro e w2 ⟨gn, cn, rfl, hgn, hrown, bn⟩
      obtain ⟨g2, c2, w3, hr, hc2, hrow2, hb2⟩ := append_grow w2 g1 m1 c1 _ (by rw [List.length_append, shorts_len, ← HM.out]; exact HM1.out) (.slice (some ⟨gn, 0, none⟩) (short (L - s)).length cn) (short (L - s)) _ rfl (RowB.bytes hrown rfl) hmc1 (RowC.below HR1.out bn) (by omega)
      have HA := hide hr
      have HR2 := hide hrow2
      have HG2 := hide (HG1.out.trans (hb2.before bn))
      clear hr hrow2 hb2 hrown bn ix
      generalize hY : (short (L - s)).length = Y at *
      have HY := hide hY
      clear hY
      go_wp2_with (at_builtin; refine wpList_append_run rfl (.tmp 15) (.tmp 17) 28 rfl (.slice (some ⟨g1, 0, none⟩) m1 c1) (.slice (some ⟨gn, 0, none⟩) Y cn) rfl rfl _ _ (HA.out _) ?_)
      go_roundw
      case rel => exact ⟨1 + 1, g2, c2, m1 + Y, rfl, by go_num, by omega, by rw [SL1.out, HM1.out]; omega, hc2, by rw [SS1.out, ← List.append_assoc]; exact HR2.out, HG2.out⟩
      case measure => simp [intOf]
    · have hy := HNL.out X (by rw [HNS.out]; simp)
      have SL1 := hide (SL.out 2 X (by rw [HNS.out]; rfl))
      have SS1 := hide (SS.out 2 X (by rw [HNS.out]; rfl))
      have hl := short_len X hy
      have ix := idx2 (s : Nat) ((L - s : Nat) : Int) (X : Nat) (V : Nat)
      go_wp2_with fail
      refine (number_nil X hy _).mono ?_
      rintro e w2 ⟨gn, cn, rfl, hgn, hrown, bn⟩
      obtain ⟨g2, c2, w3, hr, hc2, hrow2, hb2⟩ := append_grow w2 g1 m1 c1 _ (by rw [List.length_append, shorts_len, ← HM.out]; exact HM1.out) (.slice (some ⟨gn, 0, none⟩) (short X).length cn) (short X) _ rfl (RowB.bytes hrown rfl) hmc1 (RowC.below HR1.out bn) (by omega)
      have HA := hide hr
      have HR2 := hide hrow2
      have HG2 := hide (HG1.out.trans (hb2.before bn))
      clear hr hrow2 hb2 hrown bn ix
      generalize hY : (short X).length = Y at *
      have HY := hide hY
      clear hY
      go_wp2_with (at_builtin; refine wpList_append_run rfl (.tmp 15) (.tmp 17) 28 rfl (.slice (some ⟨g1, 0, none⟩) m1 c1) (.slice (some ⟨gn, 0, none⟩) Y cn) rfl rfl _ _ (HA.out _) ?_)
      go_roundw
      case rel => exact ⟨2 + 1, g2, c2, m1 + Y, rfl, by go_num, by omega, by rw [SL1.out, HM1.out]; omega, hc2, by rw [SS1.out, ← List.append_assoc]; exact HR2.out, HG2.out⟩
      case measure => simp [intOf]
    · have hy := HNL.out V (by rw [HNS.out]; simp)
      have SL1 := hide (SL.out 3 V (by rw [HNS.out]; rfl))
      have SS1 := hide (SS.out 3 V (by rw [HNS.out]; rfl))
      have hl := short_len V hy
      have ix := idx3 (s : Nat) ((L - s : Nat) : Int) (X : Nat) (V : Nat)
      go_wp2_with fail
      refine (number_nil V hy _).mono ?_
      rintro e w2 ⟨gn, cn, rfl, hgn, hrown, bn⟩
      obtain ⟨g2, c2, w3, hr, hc2, hrow2, hb2⟩ := append_grow w2 g1 m1 c1 _ (by rw [List.length_append, shorts_len, ← HM.out]; exact HM1.out) (.slice (some ⟨gn, 0, none⟩) (short V).length cn) (short V) _ rfl (RowB.bytes hrown rfl) hmc1 (RowC.below HR1.out bn) (by omega)
      have HA := hide hr
      have HR2 := hide hrow2
      have HG2 := hide (HG1.out.trans (hb2.before bn))
      clear hr hrow2 hb2 hrown bn ix
      generalize hY : (short V).length = Y at *
      have HY := hide hY
      clear hY
      go_wp2_with (at_builtin; refine wpList_append_run rfl (.tmp 15) (.tmp 17) 28 rfl (.slice (some ⟨g1, 0, none⟩) m1 c1) (.slice (some ⟨gn, 0, none⟩) Y cn) rfl rfl _ _ (HA.out _) ?_)
      go_roundw
      case rel => exact ⟨3 + 1, g2, c2, m1 + Y, rfl, by go_num, by omega, by rw [SL1.out, HM1.out]; omega, hc2, by rw [SS1.out, ← List.append_assoc]; exact HR2.out, HG2.out⟩
      case measure => simp [intOf]
    · have hbx := HG1.out.turns.heap HBOX.out (by omega)
      have f0 : wr.cell? ⟨w.heap.size, 0, none⟩ = some (.slice ka L kc) := cell_of_row wr _ 0 _ 35 (0, 0) hbx
      have HBX := hide hbx
      have hk1 := HK.out wr HG1.out.turns
      have hg1n : w.heap.size ≠ g1 := by
        rcases HG1.out.own with e | e
        · omega
        · have := HSZ.out; omega
      have hV1 := HV.out wr HG1.out.turns
      have hkl : 0 < L := by have := HL.out; rcases Nat.eq_zero_or_pos L with q | q; exact absurd (List.eq_nil_of_length_eq_zero (this.trans q)) HNE.out; exact q
      obtain ⟨kb, ko, rfl⟩ := hk1.addr hkl
      have HK1 := hide hk1
      clear hbx hk1 hV1
      have i1 : (s : Int) ≤ (L : Int) := by omega
      have i2 : (L : Int) ≤ (kc : Int) := by omega
      by_cases hcs : s = kc
      · subst hcs
        have f3 : wr.cell? ⟨w.heap.size, 3, none⟩ = some (.slice va V vc) := cell_of_row wr _ 3 _ 35 (0, 0) HBX.out
        obtain ⟨g3, c3, w5, hr3, hc3, hrow3, hb3⟩ := append_grow wr g1 m1 c1 _ (by rw [List.length_append, shorts_len, ← HM.out]; exact HM1.out) (.slice va V vc) val V HV'.out.symm (HV.out wr HG1.out.turns) hmc1 HR1.out (by omega)
        have HA3 := hide hr3
        have HR3 := hide hrow3
        have HG3 := hide ((HG1.out.trans hb3).before HB0.out)
        have hfin : m1 + V = m + EB.length := by rw [HLEN.out, HM1.out, List.take_of_length_le (by rw [HNS.out]; simp)]; omega
        have HFIN := hide hfin
        have HD := hide (show key.drop s = [] from List.drop_of_length_le (by rw [HL.out]; omega))
        clear hr3 hrow3 hb3 hfin
        go_wp2_with (at_builtin; refine wpList_append_run rfl (.tmp 26) (.tmp 28) 28 rfl (.slice (some ⟨g1, 0, none⟩) m1 c1) (.slice va V vc) rfl rfl _ _ (HA3.out _) ?_)
        go_ret
        refine ⟨g3, c3, ?_, ?_, ?_, HG3.out⟩
        · rw [← HFIN.out]; rfl
        · rw [← HFIN.out]; exact hc3
        · have h9 := HR3.out
          rw [List.take_of_length_le (by rw [HNS.out]; simp)] at h9
          rw [HEQ.out, HD.out, List.append_nil, ← List.append_assoc]
          exact h9
      · have hcs' : ¬ (s : Int) = (kc : Int) := by omega
        obtain ⟨g2, c2, w4, hr, hc2, hrow2, hb2⟩ := append_grow wr g1 m1 c1 _ (by rw [List.length_append, shorts_len, ← HM.out]; exact HM1.out) (.slice (some ⟨kb, ko + s, none⟩) (L - s) (kc - s)) (key.drop s) (L - s) (by rw [List.length_drop, HL.out]) (by have := bytes_add HK1.out s hs (kc - s); rwa [Go.WideShapes.add_plain] at this) hmc1 HR1.out (by omega)
        have hG2 := HG1.out.trans hb2
        have hbx2 := hb2.turns.heap HBX.out hg1n
        have f3 : w4.cell? ⟨w.heap.size, 3, none⟩ = some (.slice va V vc) := cell_of_row w4 _ 3 _ 35 (0, 0) hbx2
        obtain ⟨g3, c3, w5, hr3, hc3, hrow3, hb3⟩ := append_grow w4 g2 (m1 + (L - s)) c2 _ (by rw [List.length_append, List.length_append, List.length_drop, HL.out, shorts_len, ← HM.out, HM1.out]) (.slice va V vc) val V HV'.out.symm (HV.out w4 hG2.turns) hc2 hrow2 (by omega)
        have HA := hide hr
        have HA3 := hide hr3
        have HR3 := hide hrow3
        have HG3 := hide ((hG2.trans hb3).before HB0.out)
        have hfin : m1 + (L - s) + V = m + EB.length := by rw [HLEN.out, HM1.out, List.take_of_length_le (by rw [HNS.out]; simp)]; omega
        have HFIN := hide hfin
        clear hr hr3 hrow2 hrow3 hb2 hb3 hG2 hbx2 hfin
        go_wp2_with (first
          | (at_builtin; refine wpList_append_run rfl (.tmp 20) (.tmp 24) 28 rfl (.slice (some ⟨g1, 0, none⟩) m1 c1) (.slice (some ⟨kb, ko + s, none⟩) (L - s) (kc - s)) rfl rfl _ _ (HA.out _) ?_)
          | (at_builtin; refine wpList_append_run rfl (.tmp 26) (.tmp 28) 28 rfl (.slice (some ⟨g2, 0, none⟩) (m1 + (L - s)) c2) (.slice va V vc) rfl rfl _ _ (HA3.out _) ?_))
        go_ret
        refine ⟨g3, c3, ?_, ?_, ?_, HG3.out⟩
        · rw [← HFIN.out]; rfl
        · rw [← HFIN.out]; exact hc3
        · have h9 := HR3.out
          rw [List.take_of_length_le (by rw [HNS.out]; simp)] at h9
          rw [HEQ.out, ← List.append_assoc, ← List.append_assoc]
          exact h9
end Go.Proofs.YtjklbhdhjfifhaaGreat

/-
  Marks: a number's four bytes.
-/
namespace Go.Proofs.YtjklbhdhjfifhaaGreat
open Go.RowKit
set_option maxRecDepth 100000
set_option maxHeartbeats 4000000
def by4 (n j : Nat) : Value := .int .u8 ((n / 2 ^ (8 * j) % 256 : Nat) : Int)
theorem by4_eq (n j : Nat) {z : Int} (h : z = ((n / 2 ^ (8 * j) % 256 : Nat) : Int)) : Value.int .u8 z = by4 n j := by rw [h]; rfl
theorem put_any (b n : Nat) (hn : n ≤ 1000000000) (w : World) (x0 x1 x2 x3 : Value) (h : w.heap[b]? = some (.cells #[x0, x1, x2, x3] 231 (0, 0))) :
    Calls Tryz.prog 185 #[.pointer (some ⟨b, 0, none⟩), .int .i64 (n : Nat)] w fun e w' => (∃ v, e = .returned v) ∧ w'.heap[b]? = some (.cells #[by4 n 0, by4 n 1, by4 n 2, by4 n 3] 231 (0, 0)) ∧ Turns (fun k => k = b) w w' := by
  have H := hide h
  clear h
  go_enter Tryz.func185, Tryz.ntmps185
  go_wp2_with fail
  go_loopw [5] (fun i wr => ∃ (k : Nat) (y0 y1 y2 y3 : Value), i = .int .i64 (k : Nat) ∧ k ≤ 4 ∧ wr.heap[b]? = some (.cells #[y0, y1, y2, y3] 231 (0, 0)) ∧ (0 < k → y0 = by4 n 0) ∧ (1 < k → y1 = by4 n 1) ∧ (2 < k → y2 = by4 n 2) ∧ (3 < k → y3 = by4 n 3) ∧ Turns (fun k => k = b) w wr) (fun i _ => 4 - (intOf i).toNat)
  case atStart => exact ⟨0, _, _, _, _, rfl, by omega, H.out, by omega, by omega, by omega, by omega, Turns.refl _ _⟩
  case round =>
    obtain ⟨k, y0, y1, y2, y3, rfl, hk, hh, e0, e1, e2, e3, ht⟩ := hrel
    have E0 := hide e0
    have E1 := hide e1
    have E2 := hide e2
    have E3 := hide e3
    have HT := hide ht
    have HH := hide hh
    clear e0 e1 e2 e3 ht hh
    have hcase : k = 0 ∨ k = 1 ∨ k = 2 ∨ k = 3 ∨ k = 4 := by omega
    rcases hcase with rfl | rfl | rfl | rfl | rfl
    · have zk := frozen_of_row wr b 0 _ 231 HH.out
      have ck : wr.cell? ⟨b, 0, none⟩ = some y0 := cell_of_row wr _ 0 _ 231 (0, 0) HH.out
      go_wp2_with fail
      go_region
      go_wp2_with fail
      go_roundw
      case rel =>
        have s1 := fun v => heap_setCell_same wr b 0 _ 231 v HH.out
        simp only [List.setIfInBounds_toArray, List.set_cons_zero] at s1
        refine ⟨0 + 1, _, _, _, _, by go_num, by omega, s1 _, fun _ => by4_eq n 0 (by omega), fun h => absurd h (by omega), fun h => absurd h (by omega), fun h => absurd h (by omega), ?_⟩
        exact (turns_cell HT.out 0 _).drew
      case measure => simp [intOf]
    · have zk := frozen_of_row wr b 1 _ 231 HH.out
      have ck : wr.cell? ⟨b, 1, none⟩ = some y1 := cell_of_row wr _ 1 _ 231 (0, 0) HH.out
      go_wp2_with fail
      go_region
      go_wp2_with fail
      go_roundw
      case rel =>
        have s1 := fun v => heap_setCell_same wr b 1 _ 231 v HH.out
        simp only [List.setIfInBounds_toArray, List.set_cons_succ, List.set_cons_zero] at s1
        refine ⟨1 + 1, _, _, _, _, by go_num, by omega, s1 _, fun _ => E0.out (by omega), fun _ => by4_eq n 1 (by omega), fun h => absurd h (by omega), fun h => absurd h (by omega), ?_⟩
        exact (turns_cell HT.out 1 _).drew
      case measure => simp [intOf]
    · have zk := frozen_of_row wr b 2 _ 231 HH.out
      have ck : wr.cell? ⟨b, 2, none⟩ = some y2 := cell_of_row wr _ 2 _ 231 (0, 0) HH.out
      go_wp2_with fail
      go_region
      go_wp2_with fail
      go_roundw
      case rel =>
        have s1 := fun v => heap_setCell_same wr b 2 _ 231 v HH.out
        simp only [List.setIfInBounds_toArray, List.set_cons_succ, List.set_cons_zero] at s1
        refine ⟨2 + 1, _, _, _, _, by go_num, by omega, s1 _, fun _ => E0.out (by omega), fun _ => E1.out (by omega), fun _ => by4_eq n 2 (by omega), fun h => absurd h (by omega), ?_⟩
        exact (turns_cell HT.out 2 _).drew
      case measure => simp [intOf]
    · have zk := frozen_of_row wr b 3 _ 231 HH.out
      have ck : wr.cell? ⟨b, 3, none⟩ = some y3 := cell_of_row wr _ 3 _ 231 (0, 0) HH.out
      go_wp2_with fail
      go_region
      go_wp2_with fail
      go_roundw
      case rel =>
        have s1 := fun v => heap_setCell_same wr b 3 _ 231 v HH.out
        simp only [List.setIfInBounds_toArray, List.set_cons_succ, List.set_cons_zero] at s1
        refine ⟨3 + 1, _, _, _, _, by go_num, by omega, s1 _, fun _ => E0.out (by omega), fun _ => E1.out (by omega), fun _ => E2.out (by omega), fun _ => by4_eq n 3 (by omega), ?_⟩
        exact (turns_cell HT.out 3 _).drew
      case measure => simp [intOf]
    · go_wp2_with fail
      go_end0
      exact ⟨⟨_, rfl⟩, by have h9 := HH.out; rw [E0.out (by omega), E1.out (by omega), E2.out (by omega), E3.out (by omega)] at h9; exact h9, HT.out⟩
theorem or_u32 (y v j : Nat) (h : y < 2 ^ j) (hv : y + v * 2 ^ j < 4294967296) : bits .or .u32 (y : Int) ((v * 2 ^ j : Nat) : Int) = ((y + v * 2 ^ j : Nat) : Int) := by
  have hw : ∀ z : Nat, z < 4294967296 → IntKind.u32.wrap (z : Int) = z := fun z hz => by
    simp [IntKind.wrap, IntKind.bits, IntKind.signed]
    omega
  show IntKind.u32.wrap ((BitVec.ofInt 32 (y : Int) ||| BitVec.ofInt 32 ((v * 2 ^ j : Nat) : Int)).toNat : Int) = _
  rw [BitVec.ofInt_natCast, BitVec.ofInt_natCast, BitVec.toNat_or, BitVec.toNat_ofNat, BitVec.toNat_ofNat, Nat.mod_eq_of_lt (by omega), Nat.mod_eq_of_lt (by omega)]
  have h2 : y ||| v * 2 ^ j = y + v * 2 ^ j := by
    rw [Nat.or_comm, Nat.mul_comm, ← Nat.two_pow_add_eq_or_of_lt h, Nat.add_comm]
  rw [h2, hw _ (by omega)]
theorem idx67_0 (a b c d : Int) (w : World) : (Instr.index 231 (.agg #[.int .u8 a, .int .u8 b, .int .u8 c, .int .u8 d]) (.int .i64 0)).run Tryz.prog w = .ok (.int .u8 a) w := by kernel_rfl
theorem idx67_1 (a b c d : Int) (w : World) : (Instr.index 231 (.agg #[.int .u8 a, .int .u8 b, .int .u8 c, .int .u8 d]) (.int .i64 1)).run Tryz.prog w = .ok (.int .u8 b) w := by kernel_rfl
theorem idx67_2 (a b c d : Int) (w : World) : (Instr.index 231 (.agg #[.int .u8 a, .int .u8 b, .int .u8 c, .int .u8 d]) (.int .i64 2)).run Tryz.prog w = .ok (.int .u8 c) w := by kernel_rfl
theorem idx67_3 (a b c d : Int) (w : World) : (Instr.index 231 (.agg #[.int .u8 a, .int .u8 b, .int .u8 c, .int .u8 d]) (.int .i64 3)).run Tryz.prog w = .ok (.int .u8 d) w := by kernel_rfl
def arr4 (a b c d : BitVec 8) : Value := .agg #[.int .u8 (a.toNat : Int), .int .u8 (b.toNat : Int), .int .u8 (c.toNat : Int), .int .u8 (d.toNat : Int)]
theorem number4_any (a b c d : BitVec 8) (w : World) : Calls Tryz.prog 191 #[arr4 a b c d] w fun e w' => e = .returned (.int .u32 (le4 a b c d : Nat)) ∧ Below w.heap.size w w' := by
  unfold arr4 le4
  have h1 := a.isLt
  have h2 := b.isLt
  have h3 := c.isLt
  have h4 := d.isLt
  generalize a.toNat = A at *
  generalize b.toNat = B at *
  generalize c.toNat = C at *
  generalize d.toNat = D at *
  go_enter Tryz.func191, Tryz.ntmps191
  go_wp2_with fail
  have ixs : ∀ w : World, (Instr.index 231 (.agg #[.int .u8 (A : Int), .int .u8 (B : Int), .int .u8 (C : Int), .int .u8 (D : Int)]) (.int .i64 0)).run Tryz.prog w = .ok (.int .u8 (A : Int)) w ∧ (Instr.index 231 (.agg #[.int .u8 (A : Int), .int .u8 (B : Int), .int .u8 (C : Int), .int .u8 (D : Int)]) (.int .i64 1)).run Tryz.prog w = .ok (.int .u8 (B : Int)) w ∧ (Instr.index 231 (.agg #[.int .u8 (A : Int), .int .u8 (B : Int), .int .u8 (C : Int), .int .u8 (D : Int)]) (.int .i64 2)).run Tryz.prog w = .ok (.int .u8 (C : Int)) w ∧ (Instr.index 231 (.agg #[.int .u8 (A : Int), .int .u8 (B : Int), .int .u8 (C : Int), .int .u8 (D : Int)]) (.int .i64 3)).run Tryz.prog w = .ok (.int .u8 (D : Int)) w := fun w => ⟨idx67_0 _ _ _ _ w, idx67_1 _ _ _ _ w, idx67_2 _ _ _ _ w, idx67_3 _ _ _ _ w⟩
  have IXS := hide ixs
  clear ixs
  go_loopw [3, 7] (fun v i wr => ∃ (k T : Nat), v = .int .u32 (T : Nat) ∧ i = .int .i64 (k : Nat) ∧ k ≤ 4 ∧ T = ((if 0 < k then A else 0) + (if 1 < k then 256 * B else 0) + (if 2 < k then 65536 * C else 0) + (if 3 < k then 16777216 * D else 0)) ∧ Below w.heap.size w wr) (fun _ i _ => 4 - (intOf i).toNat)
  case atStart => exact ⟨0, 0, rfl, rfl, by omega, rfl, (Below.refl _ _).alloc (Nat.le_refl _) _⟩
  case round =>
    obtain ⟨k, T, rfl, rfl, hk, hT, hb⟩ := hrel
    have HB := hide hb
    have HT := hide hT
    clear hb hT
    have hcase : k = 0 ∨ k = 1 ∨ k = 2 ∨ k = 3 ∨ k = 4 := by omega
    rcases hcase with rfl | rfl | rfl | rfl | rfl
    · have ix := fun u => ((IXS.out u).1)
      have hT2 := HT.out
      simp at hT2
      have hor := or_u32 T A 0 (by omega) (by omega)
      rw [show ((A * 2 ^ 0 : Nat) : Int) = (A : Int) by omega] at hor
      generalize hT3 : T + A * 2 ^ 0 = T2 at *
      have HT3 := hide hT3
      have HT2 := hide hT2
      clear hT2 hT3
      go_wp2_with fail
      go_roundw
      case rel => exact ⟨0 + 1, T2, by first | rfl | rw [hor], by go_num, by omega, by have h1 := HT3.out; have h2 := HT2.out; simp; omega, HB.out⟩
      case measure => simp [intOf]
    · have ix := fun u => ((IXS.out u).2.1)
      have hT2 := HT.out
      simp at hT2
      have hor := or_u32 T B 8 (by omega) (by omega)
      rw [show ((B * 2 ^ 8 : Nat) : Int) = (B : Int) * 256 by omega] at hor
      generalize hT3 : T + B * 2 ^ 8 = T2 at *
      have HT3 := hide hT3
      have HT2 := hide hT2
      clear hT2 hT3
      go_wp2_with fail
      go_roundw
      case rel => exact ⟨1 + 1, T2, by first | rfl | rw [hor], by go_num, by omega, by have h1 := HT3.out; have h2 := HT2.out; simp; omega, HB.out⟩
      case measure => simp [intOf]
    · have ix := fun u => ((IXS.out u).2.2.1)
      have hT2 := HT.out
      simp at hT2
      have hor := or_u32 T C 16 (by omega) (by omega)
      rw [show ((C * 2 ^ 16 : Nat) : Int) = (C : Int) * 65536 by omega] at hor
      generalize hT3 : T + C * 2 ^ 16 = T2 at *
      have HT3 := hide hT3
      have HT2 := hide hT2
      clear hT2 hT3
      go_wp2_with fail
      go_roundw
      case rel => exact ⟨2 + 1, T2, by first | rfl | rw [hor], by go_num, by omega, by have h1 := HT3.out; have h2 := HT2.out; simp; omega, HB.out⟩
      case measure => simp [intOf]
    · have ix := fun u => ((IXS.out u).2.2.2)
      have hT2 := HT.out
      simp at hT2
      have hor := or_u32 T D 24 (by omega) (by omega)
      rw [show ((D * 2 ^ 24 : Nat) : Int) = (D : Int) * 16777216 by omega] at hor
      generalize hT3 : T + D * 2 ^ 24 = T2 at *
      have HT3 := hide hT3
      have HT2 := hide hT2
      clear hT2 hT3
      go_wp2_with fail
      go_roundw
      case rel => exact ⟨3 + 1, T2, by first | rfl | rw [hor], by go_num, by omega, by have h1 := HT3.out; have h2 := HT2.out; simp; omega, HB.out⟩
      case measure => simp [intOf]
    · have hT2 := HT.out
      simp only [if_true, Nat.reduceLT] at hT2
      have HT2 := hide hT2
      clear hT2
      go_wp2_with fail
      go_ret
      exact ⟨by rw [HT2.out]; rfl, HB.out⟩
end Go.Proofs.YtjklbhdhjfifhaaGreat

/-
  Restarts' places behind bytes; are entries in order? how many bytes has a block?
-/
namespace Go.Proofs.YtjklbhdhjfifhaaGreat
open Go.RowKit
set_option maxRecDepth 100000
set_option maxHeartbeats 4000000
/-- Numbers in memory. -/
def IntsAt (w : World) (v : Value) (l : List Nat) : Prop :=
  ∃ (a : Option Addr) (c : Nat), v = .slice a l.length c ∧ ∀ k x, l[k]? = some x → ∃ b off, a = some ⟨b, off, none⟩ ∧ w.cell? ⟨b, off + k, none⟩ = some (.int .i64 (x : Nat))
theorem IntsAt.turns {S : Nat → Prop} {w w' : World} {v : Value} {l : List Nat} (h : IntsAt w v l) (t : Turns S w w') (hS : ∀ a n c, v = .slice (some a) n c → ¬ S a.block) : IntsAt w' v l := by
  obtain ⟨a, c, rfl, hx⟩ := h
  refine ⟨a, c, rfl, fun k x hk => ?_⟩
  obtain ⟨b, off, rfl, hc⟩ := hx k x hk
  exact ⟨b, off, rfl, t.cell hc (hS ⟨b, off, none⟩ _ _ rfl)⟩
theorem bytes4 {w : World} {b n : Nat} (h : w.heap[b]? = some (.cells #[by4 n 0, by4 n 1, by4 n 2, by4 n 3] 231 (0, 0))) : Bytes w (.slice (some ⟨b, 0, none⟩) 4 4) (four n) := by
  refine ⟨_, 4, rfl, fun k hk => ⟨b, 0, rfl, ?_⟩⟩
  have hk4 : k < 4 := hk
  rw [Nat.zero_add, cell_of_row w b k _ 231 (0, 0) h]
  have hcase : k = 0 ∨ k = 1 ∨ k = 2 ∨ k = 3 := by omega
  rcases hcase with rfl | rfl | rfl | rfl
  all_goals simp [four, by4]
theorem appendPlaces_any (g c m : Nat) (bs : List (BitVec 8)) (hm : m = bs.length) (a : Option Addr) (n ca : Nat) (l : List Nat) (w : World) (hmc : m ≤ c) (hrow : RowB w g c bs) (hi : IntsAt w (.slice a n ca) l) (hg : ∀ x, a = some x → x.block ≠ g) (hn : n ≤ 100000) (hm2 : m ≤ 300000) (hl : ∀ x ∈ l, x ≤ 1000000000) :
    Calls Tryz.prog 154 #[.slice (some ⟨g, 0, none⟩) m c, .slice a n ca] w fun e w' => ∃ g' c', e = .returned (.slice (some ⟨g', 0, none⟩) (m + 4 * l.length + 4) c') ∧ m + 4 * l.length + 4 ≤ c' ∧ RowB w' g' c' (bs ++ (l.flatMap four ++ four l.length)) ∧ Grow g w g' w' := by
  have hglt : g < w.heap.size := by
    obtain ⟨cs, h1, _⟩ := hrow
    exact lt_of_heap h1
  have hnl : n = l.length := by
    obtain ⟨_, _, e, _⟩ := hi
    cases e
    rfl
  have b0 := (Below.refl w.heap.size w).alloc (Nat.le_refl _) (.cells #[.int .u8 0, .int .u8 0, .int .u8 0, .int .u8 0] 231)
  have hnew := heap_alloc_new w (.cells #[.int .u8 0, .int .u8 0, .int .u8 0, .int .u8 0] 231)
  have HR := hide (show RowB _ g c bs from RowC.below hrow b0)
  have HI := hide hi
  have B0 := hide b0
  have HNEW := hide hnew
  have HM := hide hm
  have HNL := hide hnl
  have HLL := hide hl
  have HG := hide hg
  have hsz : (w.alloc (.cells #[.int .u8 0, .int .u8 0, .int .u8 0, .int .u8 0] 231)).heap.size = w.heap.size + 1 := by simp
  have HSZ := hide hsz
  clear hrow hi b0 hnew hm hnl hl hg hsz
  go_enter Tryz.func154, Tryz.ntmps154
  go_wp2_with fail
  generalize w.alloc (.cells #[.int .u8 0, .int .u8 0, .int .u8 0, .int .u8 0] 231) = w0 at *
  generalize hq : w.heap.size = q at *
  have HQ := hide hq
  clear hq
  have hfl : ∀ l : List Nat, (l.flatMap four).length = 4 * l.length := fun l => by
    induction l with
    | nil => rfl
    | cons a r ih => simp only [List.flatMap_cons, List.length_append, ih, four_len, List.length_cons]; omega
  have HFL := hide hfl
  clear hfl
  go_loopw [0, 10] (fun v i wr => ∃ (k g1 c1 m1 : Nat) (y0 y1 y2 y3 : Value), v = .slice (some ⟨g1, 0, none⟩) m1 c1 ∧ i = .int .i64 (k : Nat) ∧ k ≤ n ∧ m1 = m + 4 * k ∧ m1 ≤ c1 ∧ wr.heap[q]? = some (.cells #[y0, y1, y2, y3] 231 (0, 0)) ∧ RowB wr g1 c1 (bs ++ (l.take k).flatMap four) ∧ (g1 = g ∨ q < g1) ∧ Turns (fun k => k = g) w wr) (fun _ i _ => n - (intOf i).toNat)
  case atStart => exact ⟨0, g, c, m, _, _, _, _, rfl, rfl, by omega, by omega, hmc, HNEW.out, by rw [List.take_zero, List.flatMap_nil, List.append_nil]; exact HR.out, .inl rfl, Turns.of_below (by rw [HQ.out]; exact B0.out) _⟩
  case round =>
    obtain ⟨k, g1, c1, m1, y0, y1, y2, y3, rfl, rfl, hk, hm1, hmc1, hh, hrow1, hg1, ht⟩ := hrel
    have HH := hide hh
    have HR1 := hide hrow1
    have HT := hide ht
    have HM1 := hide hm1
    have hqlt : q < wr.heap.size := lt_of_heap hh
    have hbd : m1 ≤ 700000 := by omega
    have hg1q : ¬ g1 = q := by omega
    have hbl : m1 = (bs ++ (l.take k).flatMap four).length := by
      rw [List.length_append, HFL.out, List.length_take, ← HM.out, ← HNL.out]
      omega
    have HBL := hide hbl
    clear hh hrow1 ht hm1 hbl
    by_cases hkn : k < n
    · have hkl : k < l.length := by have := HNL.out; omega
      obtain ⟨_, _, e, hx⟩ := HI.out
      cases e
      obtain ⟨b, off, rfl, hc⟩ := hx k l[k] (List.getElem?_eq_getElem hkl)
      have hbg : b ≠ g := HG.out ⟨b, off, none⟩ rfl
      have hc' := HT.out.cell hc hbg
      have hlk := HLL.out l[k] (List.getElem_mem hkl)
      have HTK := hide (List.take_succ_eq_append_getElem hkl)
      generalize l[k] = y at *
      have i1 : (k : Int) < (l.length : Int) := by omega
      have i0 : (0 : Int) ≤ (k : Int) := by omega
      clear hx hc
      go_wp2_with fail
      refine (put_any q y hlk _ y0 y1 y2 y3 HH.out).mono ?_
      rintro e w2 ⟨⟨v, rfl⟩, hh2, t2⟩
      obtain ⟨g2, c2, w3, hr, hc2, hrow2, hb2⟩ := append_grow w2 g1 m1 c1 _ HBL.out (.slice (some ⟨q, 0, none⟩) 4 4) (four y) 4 rfl (bytes4 hh2) hmc1 (RowC.turns HR1.out t2 hg1q) (by omega)
      have hh3 := hb2.turns.heap hh2 (fun e => hg1q e.symm)
      have HA := hide hr
      have HR2 := hide hrow2
      have HH3 := hide hh3
      have HB2 := hide hb2
      have T2 := hide t2
      clear hr hrow2 hh3 hb2 t2
      go_wp2_with (at_builtin; refine wpList_append_run rfl (.tmp 16) (.tmp 17) 28 rfl (.slice (some ⟨g1, 0, none⟩) m1 c1) (.slice (some ⟨q, 0, none⟩) 4 4) rfl rfl _ _ (HA.out _) ?_)
      go_roundw
      case rel =>
        refine ⟨k + 1, g2, c2, m1 + 4, _, _, _, _, rfl, by go_num, by omega, by rw [HM1.out]; omega, hc2, HH3.out, ?_, ?_, ?_⟩
        · rw [HTK.out, List.flatMap_append, ← List.append_assoc]
          simpa using HR2.out
        · have h1 := T2.out.size
          rcases HB2.out.own with e | e
          · rw [e]; exact hg1
          · exact .inr (by omega)
        · have h1 := HT.out.size
          have h2 := HQ.out
          refine (HT.out.andThen T2.out fun j hj e => ?_).andThen HB2.out.turns fun j hj e => ?_
          · omega
          · omega
      case measure => simp [intOf]; omega
    · obtain rfl : k = n := by omega
      have i1 : ¬ (k : Int) < (k : Int) := by omega
      have HTL := hide (show l.take k = l from List.take_of_length_le (by rw [HNL.out]; exact Nat.le_refl _))
      go_wp2_with fail
      refine (put_any q k (by omega) _ y0 y1 y2 y3 HH.out).mono ?_
      rintro e w2 ⟨⟨v, rfl⟩, hh2, t2⟩
      obtain ⟨g2, c2, w3, hr, hc2, hrow2, hb2⟩ := append_grow w2 g1 m1 c1 _ HBL.out (.slice (some ⟨q, 0, none⟩) 4 4) (four k) 4 rfl (bytes4 hh2) hmc1 (RowC.turns HR1.out t2 hg1q) (by omega)
      have HA := hide hr
      have HR2 := hide hrow2
      have HB2 := hide hb2
      have T2 := hide t2
      clear hr hrow2 hb2 t2
      go_wp2_with (at_builtin; refine wpList_append_run rfl (.tmp 23) (.tmp 24) 28 rfl (.slice (some ⟨g1, 0, none⟩) m1 c1) (.slice (some ⟨q, 0, none⟩) 4 4) rfl rfl _ _ (HA.out _) ?_)
      go_ret
      refine ⟨g2, c2, ?_, ?_, ?_, ?_, ?_⟩
      · rw [← HNL.out, ← HM1.out]; rfl
      · rw [← HNL.out, ← HM1.out]; exact hc2
      · have h9 := HR2.out
        rw [HTL.out, List.append_assoc] at h9
        rw [← HNL.out]
        exact h9
      · have h1 := T2.out.size
        have h2 := HQ.out
        have h3 := HT.out.size
        rcases HB2.out.own with e | e
        · rcases hg1 with e' | e'
          · exact .inl (e.trans e')
          · exact .inr (by omega)
        · exact .inr (by omega)
      · have h1 := HT.out.size
        have h2 := HQ.out
        refine (HT.out.andThen T2.out fun j hj e => ?_).andThen HB2.out.turns fun j hj e => ?_
        · omega
        · omega
end Go.Proofs.YtjklbhdhjfifhaaGreat
