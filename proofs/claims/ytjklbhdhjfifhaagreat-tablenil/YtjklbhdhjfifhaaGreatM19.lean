import Derived.Test.YtjklbhdhjfifhaaGreatM17
import Derived.WalkMore
/-
  The reader: its state in memory, and how a short number is read.
-/
namespace Go.Proofs.YtjklbhdhjfifhaaGreat
open Go.RowKit
set_option maxRecDepth 100000
set_option maxHeartbeats 4000000
/-- A reader: its bytes, how many are gone over, its error. -/
def Rdr (w : World) (r : Nat) (p : List (BitVec 8)) (i : Nat) (e : Int) : Prop :=
  ∃ (a : Option Addr) (c : Nat), w.heap[r]? = some (.cells #[.slice a p.length c, .int .i64 (i : Nat), .bool true, .int .i64 e] 198 (0, 0)) ∧ Bytes w (.slice a p.length c) p ∧ p.length ≤ c ∧ (a = none → c = 0) ∧ (∀ x, a = some x → x.block < r)
theorem wrapU (z : Int) (h0 : 0 ≤ z) (h1 : z < 18446744073709551616) : IntKind.u64.wrap z = z := by rw [IntKind.wrap_u64]; omega
theorem or_add (y v j : Nat) (h : y < 2 ^ j) (hv : y + v * 2 ^ j < 2 ^ 64) : bits .or .u64 (y : Int) (IntKind.u64.wrap ((v : Int) * 2 ^ j)) = ((y + v * 2 ^ j : Nat) : Int) := by
  have h1 : ((v : Int) * 2 ^ j) = ((v * 2 ^ j : Nat) : Int) := by simp [Int.natCast_mul]
  rw [h1, wrapU _ (by omega) (by omega)]
  show IntKind.u64.wrap ((BitVec.ofInt 64 (y : Int) ||| BitVec.ofInt 64 ((v * 2 ^ j : Nat) : Int)).toNat : Int) = _
  rw [BitVec.ofInt_natCast, BitVec.ofInt_natCast, BitVec.toNat_or, BitVec.toNat_ofNat, BitVec.toNat_ofNat, Nat.mod_eq_of_lt (by omega), Nat.mod_eq_of_lt (by omega)]
  have h2 : y ||| v * 2 ^ j = y + v * 2 ^ j := by
    rw [Nat.or_comm, Nat.mul_comm, ← Nat.two_pow_add_eq_or_of_lt h, Nat.add_comm]
  rw [h2, wrapU _ (by omega) (by omega)]
theorem pow7 (k : Nat) : 2 ^ (7 * (k + 1)) = 128 * 2 ^ (7 * k) := by rw [Nat.mul_add, Nat.pow_add, Nat.mul_comm]
theorem add_lt (y v k : Nat) (h : y < 2 ^ (7 * k)) (hv : v < 128) : y + v * 2 ^ (7 * k) < 2 ^ (7 * (k + 1)) := by
  have hm : (v + 1) * 2 ^ (7 * k) ≤ 128 * 2 ^ (7 * k) := Nat.mul_le_mul_right _ (by omega)
  rw [pow7]
  rw [Nat.add_mul] at hm
  omega
theorem pow63 (k : Nat) (h : k < 9) : 2 ^ (7 * (k + 1)) ≤ 2 ^ 63 := Nat.pow_le_pow_right (by decide) (by omega)
/-- What a short number's reading answers. -/
def rdVal (o : Except Int (Nat × Nat)) : Value :=
  match o with
  | .error z => .tuple #[.int .u64 0, .int .i64 0, .int .i64 z]
  | .ok (x, k) => .tuple #[.int .u64 (x : Nat), .int .i64 (k : Nat), .int .i64 0]
theorem readShort_any (a : Option Addr) (n c : Nat) (l : List (BitVec 8)) (w : World) (h : Bytes w (.slice a n c) l) (hn : n ≤ 1000000) :
    Calls Tryz.prog 139 #[.slice a n c] w fun e w' => e = .returned (rdVal (rdShort l)) ∧ ∃ m, w' = w.drewN m := by
  have hl := h.len
  have H := hide h
  have HL := hide hl
  clear h hl
  go_enter Tryz.func139, Tryz.ntmps139
  go_wp2_with fail
  go_step3
  go_wp2_with fail
  go_step3
  go_wp2_with fail
  go_loopw [2, 3, 4] (fun x i e wr => ∃ (k y : Nat), x = .int .u64 (y : Nat) ∧ i = .int .i64 (k : Nat) ∧ e = .int .i64 0 ∧ k ≤ n ∧ k ≤ 9 ∧ y < 2 ^ (7 * k) ∧ rdGo y k (l.drop k) = rdShort l ∧ ∃ m, wr = w.drewN m) (fun _ i _ _ => n - (intOf i).toNat)
  case atStart => exact ⟨0, 0, rfl, rfl, rfl, Nat.zero_le _, by decide, by decide, rfl, 0, rfl⟩
  case round =>
    obtain ⟨k, y, rfl, rfl, rfl, hk, hk9, hy, hrd, m, rfl⟩ := hrel
    have HRD := hide hrd
    have HY := hide hy
    clear hrd hy
    by_cases hkn : k < n
    · obtain ⟨b, off, rfl⟩ := H.out.addr (by omega)
      have hkl : k < l.length := by have := HL.out; omega
      have hc := H.out.at k hkl
      have hd : l.getD k 0 = l[k] := by simp [List.getD, hkl]
      rw [hd] at hc
      have hdrop : l.drop k = l[k] :: l.drop (k + 1) := List.drop_eq_getElem_cons hkl
      have HDR := hide hdrop
      have hb := l[k].isLt
      generalize l[k] = q at *
      have i1 : (k : Int) < (n : Int) := by omega
      have i0 : (0 : Int) ≤ (k : Int) := by omega
      have i2 : ¬ (k : Int) = (n : Int) := by omega
      generalize hq : q.toNat = z at *
      have HQ := hide hq
      clear hd hdrop hq
      by_cases h9 : k = 9
      · subst h9
        by_cases h1 : 1 < z
        · have h1' : (1 : Int) < (z : Int) := by omega
          have hres : rdShort l = .error 4 := by rw [← HRD.out, HDR.out, rdGo, if_pos ⟨rfl, by rw [HQ.out]; exact h1⟩]
          have HRES := hide hres
          clear hres
          go_wp2_with fail
          rw [Exit.noGoto_ret]
          go_returns
          exact ⟨by rw [HRES.out]; rfl, m, rfl⟩
        · have h1' : ¬ (1 : Int) < (z : Int) := by omega
          by_cases hz : z = 0
          · subst hz
            have hres : rdShort l = .error 4 := by rw [← HRD.out, HDR.out, rdGo, if_neg (by rw [HQ.out]; rintro ⟨_, e⟩; omega), if_pos ⟨by decide, HQ.out⟩]
            have HRES := hide hres
            clear hres
            go_wp2_with fail
            try rw [Exit.noGoto_ret]
            go_returns
            exact ⟨by rw [HRES.out]; rfl, m, rfl⟩
          · obtain rfl : z = 1 := by omega
            have hres : rdShort l = .ok (y + 1 * 2 ^ (7 * 9), 9 + 1) := by rw [← HRD.out, HDR.out, rdGo, HQ.out, if_neg (by rintro ⟨_, e⟩; omega), if_neg (by rintro ⟨_, e⟩; omega), if_pos (by decide)]
            have HRES := hide hres
            have hor := or_add y 1 (7 * 9) HY.out (by have := HY.out; omega)
            have e63 : IntKind.u64.wrap (((1 : Nat) : Int) * 2 ^ (7 * 9)) = 9223372036854775808 := by rw [wrapU _ (by decide) (by decide)]; decide
            rw [e63] at hor
            clear e63
            clear hres
            generalize y + 1 * 2 ^ (7 * 9) = y2 at *
            go_wp2_with fail
            all_goals try rw [Exit.noGoto_ret]
            all_goals go_returns
            all_goals exact ⟨by rw [HRES.out]; first | rfl | (rw [← hor]; rfl), m, rfl⟩
      · have h9' : ¬ (k : Int) = 9 := by omega
        by_cases h0 : 0 < k ∧ z = 0
        · obtain ⟨h00, rfl⟩ := h0
          have h00' : (0 : Int) < (k : Int) := by omega
          have hres : rdShort l = .error 4 := by rw [← HRD.out, HDR.out, rdGo, if_neg (by rintro ⟨e, _⟩; exact h9 e), if_pos ⟨h00, HQ.out⟩]
          have HRES := hide hres
          clear hres
          go_wp2_with fail
          rw [Exit.noGoto_ret]
          go_returns
          exact ⟨by rw [HRES.out]; rfl, m, rfl⟩
        · by_cases h128 : z < 128
          · have h128' : (z : Int) < 128 := by omega
            have hres : rdShort l = .ok (y + z * 2 ^ (7 * k), k + 1) := by rw [← HRD.out, HDR.out, rdGo, HQ.out, if_neg (by rintro ⟨e, _⟩; exact h9 e), if_neg h0, if_pos h128]
            have HRES := hide hres
            have hor := or_add y z (7 * k) HY.out (Nat.lt_of_lt_of_le (add_lt y z k HY.out h128) (Nat.le_trans (pow63 k (by omega)) (by decide)))
            clear hres
            generalize y + z * 2 ^ (7 * k) = y2 at *
            go_wp2_with fail
            all_goals rw [Exit.noGoto_ret]
            all_goals go_returns
            all_goals exact ⟨by rw [HRES.out]; first | rfl | (rw [← hor]; rfl), m, rfl⟩
          · have h128' : ¬ (z : Int) < 128 := by omega
            have hz0 : ¬ (z : Int) = 0 := by omega
            have hres : rdGo (y + (z - 128) * 2 ^ (7 * k)) (k + 1) (l.drop (k + 1)) = rdShort l := by rw [← HRD.out, HDR.out, rdGo, HQ.out, if_neg (by rintro ⟨e, _⟩; exact h9 e), if_neg h0, if_neg h128]
            have HRES := hide hres
            have hl2 := add_lt y (z - 128) k HY.out (by omega)
            have hor := or_add y (z - 128) (7 * k) HY.out (Nat.lt_of_lt_of_le hl2 (Nat.le_trans (pow63 k (by omega)) (by decide)))
            rw [show ((z - 128 : Nat) : Int) = (z : Int) - 128 by omega] at hor
            have HL2 := hide hl2
            clear hres hl2
            generalize y + (z - 128) * 2 ^ (7 * k) = y2 at *
            go_wp2_with fail
            all_goals go_roundw
            case rel => exact ⟨k + 1, y2, by first | rfl | rw [hor], by go_num, rfl, by omega, by omega, HL2.out, HRES.out, m, rfl⟩
            case rel => exact ⟨k + 1, y2, by first | rfl | rw [hor], by go_num, rfl, by omega, by omega, HL2.out, HRES.out, m, rfl⟩
            all_goals simp [intOf]; omega
    · obtain rfl : k = n := by omega
      have hres : rdShort l = .error 12 := by rw [← HRD.out, List.drop_eq_nil_of_le (by have := HL.out; omega)]; rfl
      have HRES := hide hres
      clear hres
      go_wp2_with fail
      rw [Exit.noGoto_ret]
      go_returns
      exact ⟨by rw [HRES.out]; rfl, m, rfl⟩
end Go.Proofs.YtjklbhdhjfifhaaGreat

/-
  The reader's calls: Number, Piece, Fixed, Err, End.
-/
namespace Go.Proofs.YtjklbhdhjfifhaaGreat
open Go.RowKit
set_option maxRecDepth 100000
set_option maxHeartbeats 4000000
theorem bytes_add {w : World} {ad : Addr} {L c : Nat} {p : List (BitVec 8)} (h : Bytes w (.slice (some ad) L c) p) (i : Nat) (hi : i ≤ L) (c' : Nat) : Bytes w (.slice (some (ad.add i)) (L - i) c') (p.drop i) := by
  have hl := h.len
  rcases Nat.eq_zero_or_pos (L - i) with h0 | h0
  · rw [h0, List.drop_eq_nil_of_le (by omega)]
    exact Bytes.nothing _ _
  · obtain ⟨b, off, e⟩ := h.addr (by omega)
    cases e
    have := h.part i (L - i) c' (by omega)
    rw [List.take_of_length_le (by rw [List.length_drop]; omega)] at this
    rw [Go.WideShapes.add_plain]
    exact this
theorem bytes_end {w : World} (a : Option Addr) {L c : Nat} {p : List (BitVec 8)} (i : Nat) (hl : p.length = L) (h : L - i = 0) : Bytes w (.slice a (L - i) c) (p.drop i) := by
  rw [h, List.drop_eq_nil_of_le (by omega)]
  exact Bytes.nothing _ _
theorem rest_any (r : Nat) (p : List (BitVec 8)) (i : Nat) (e : Int) (w : World) (h : Rdr w r p i e) (hi : i ≤ p.length) :
    Calls Tryz.prog 140 #[.pointer (some ⟨r, 0, none⟩)] w fun e w' => ∃ a' c', e = .returned (.slice a' (p.length - i) c') ∧ Bytes w' (.slice a' (p.length - i) c') (p.drop i) ∧ p.length - i ≤ c' ∧ ∃ m, w' = w.drewN m := by
  obtain ⟨a, c, hr, hb, hc, hc0, hn⟩ := h
  have c0 := cell_of_row w _ 0 _ 198 (0, 0) hr
  have c1 := cell_of_row w _ 1 _ 198 (0, 0) hr
  simp at c0 c1
  have HB := hide hb
  clear hb hr hn
  have i1 : (i : Int) ≤ (p.length : Int) := by omega
  generalize hL : p.length = L at *
  have HL := hide hL
  clear hL
  cases a with
  | none =>
    obtain rfl := hc0 rfl
    obtain rfl : L = 0 := by omega
    obtain rfl : i = 0 := by omega
    go_enter Tryz.func140, Tryz.ntmps140
    go_wp2_with fail
    go_quiet (fail)
    go_wp2_with fail
    go_ret
    exact ⟨none, 0, rfl, bytes_end none 0 HL.out rfl, Nat.le_refl _, nq, rfl⟩
  | some ad =>
    clear hc0
    go_enter Tryz.func140, Tryz.ntmps140
    go_wp2_with fail
    go_quiet (fail)
    go_wp2_with fail
    all_goals go_ret
    · exact ⟨_, _, rfl, bytes_end _ i HL.out (by omega), by omega, nq, rfl⟩
    · exact ⟨_, _, rfl, bytes_add HB.out i hi _, by omega, nq, rfl⟩
theorem skip_any (r : Nat) (p : List (BitVec 8)) (i m : Nat) (e : Int) (w : World) (h : Rdr w r p i e) (hi : i + m ≤ 1000000) :
    Calls Tryz.prog 141 #[.pointer (some ⟨r, 0, none⟩), .int .i64 m] w fun e' w' => (∃ v, e' = .returned v) ∧ Rdr w' r p (i + m) e ∧ Turns (fun j => j = r) w w' := by
  obtain ⟨a, c, hr, hb, hc, hc0, hn⟩ := h
  have c1 := cell_of_row w _ 1 _ 198 (0, 0) hr
  simp at c1
  have z1 := frozen_of_row w r 1 _ 198 hr
  have HR := hide hr
  have HB := hide hb
  clear hr hb
  go_enter Tryz.func141, Tryz.ntmps141
  go_wp2_with fail
  go_end0
  have ht := turns_cell (Turns.refl (fun j => j = r) w) 1 (.int .i64 ((i : Int) + (m : Int)))
  refine ⟨⟨_, rfl⟩, ⟨a, c, ?_, HB.out.turns ht (fun x n c e => Nat.ne_of_lt (hn x (by cases e; rfl))), hc, hc0, hn⟩, ht⟩
  have s1 := heap_setCell_same _ r 1 _ 198 (.int .i64 ((i : Int) + (m : Int))) HR.out
  simp only [List.setIfInBounds_toArray, List.set_cons_succ, List.set_cons_zero] at s1
  exact s1
theorem Rdr.cells {w : World} {r : Nat} {p : List (BitVec 8)} {i : Nat} {e : Int} (h : Rdr w r p i e) : ∃ a c, w.cell? ⟨r, 0, none⟩ = some (.slice a p.length c) ∧ w.cell? ⟨r, 1, none⟩ = some (.int .i64 (i : Nat)) ∧ w.cell? ⟨r, 2, none⟩ = some (.bool true) ∧ w.cell? ⟨r, 3, none⟩ = some (.int .i64 e) := by
  obtain ⟨a, c, hr, _⟩ := h
  exact ⟨a, c, cell_of_row w _ 0 _ 198 (0, 0) hr, cell_of_row w _ 1 _ 198 (0, 0) hr, cell_of_row w _ 2 _ 198 (0, 0) hr, cell_of_row w _ 3 _ 198 (0, 0) hr⟩
theorem Rdr.drewN {w : World} {r : Nat} {p : List (BitVec 8)} {i : Nat} {e : Int} (h : Rdr w r p i e) (m : Nat) : Rdr (w.drewN m) r p i e := h
theorem made_any (r : Nat) (p : List (BitVec 8)) (i : Nat) (e : Int) (w : World) (h : Rdr w r p i e) :
    Calls Tryz.prog 177 #[.pointer (some ⟨r, 0, none⟩)] w fun e' w' => e' = .returned (.bool true) ∧ ∃ m, w' = w.drewN m := by
  obtain ⟨a, c, c0, c1, c2, c3⟩ := h.cells
  go_enter Tryz.func177, Tryz.ntmps177
  go_wp2_with fail
  go_ret
  exact ⟨rfl, 0, rfl⟩
theorem ready_any (r : Nat) (p : List (BitVec 8)) (i : Nat) (e : Int) (w : World) (h : Rdr w r p i e) :
    Calls Tryz.prog 138 #[.pointer (some ⟨r, 0, none⟩)] w fun e' w' => e' = .returned (.bool (decide (e = 0))) ∧ ∃ m, w' = w.drewN m := by
  obtain ⟨a, c, c0, c1, c2, c3⟩ := h.cells
  have H := hide h
  clear h
  go_enter Tryz.func138, Tryz.ntmps138
  go_wp2_with fail
  refine (made_any r p i e w H.out).mono ?_
  rintro e' w1 ⟨rfl, m, rfl⟩
  by_cases h0 : e = 0
  · subst h0
    go_wp2_with fail
    go_ret
    exact ⟨rfl, m, rfl⟩
  · have h0' : (e == 0) = false := by simpa using h0
    go_wp2_with fail
    go_ret
    exact ⟨congrArg Ending.returned (congrArg Value.bool (by simp [h0])), m, rfl⟩
theorem left_any (r : Nat) (p : List (BitVec 8)) (i : Nat) (e : Int) (w : World) (h : Rdr w r p i e) (hp : p.length ≤ 1000000) (hi : i ≤ p.length) :
    Calls Tryz.prog 143 #[.pointer (some ⟨r, 0, none⟩)] w fun e' w' => e' = .returned (.int .i64 ((p.length - i : Nat) : Int)) ∧ ∃ m, w' = w.drewN m := by
  obtain ⟨a, c, c0, c1, c2, c3⟩ := h.cells
  have i1 : (i : Int) ≤ (p.length : Int) := by omega
  generalize p.length = L at *
  clear h
  go_enter Tryz.func143, Tryz.ntmps143
  go_wp2_with fail
  go_quiet (fail)
  go_wp2_with fail
  go_ret
  exact ⟨congrArg Ending.returned (congrArg (Value.int .i64) (by omega)), nq, rfl⟩
theorem err_any (r : Nat) (p : List (BitVec 8)) (i : Nat) (e : Int) (w : World) (h : Rdr w r p i e) :
    Calls Tryz.prog 142 #[.pointer (some ⟨r, 0, none⟩)] w fun e' w' => e' = .returned (.int .i64 e) ∧ ∃ m, w' = w.drewN m := by
  obtain ⟨a, c, c0, c1, c2, c3⟩ := h.cells
  have H := hide h
  clear h
  go_enter Tryz.func142, Tryz.ntmps142
  go_wp2_with fail
  refine (made_any r p i e w H.out).mono ?_
  rintro e' w1 ⟨rfl, m, rfl⟩
  go_wp2_with fail
  go_ret
  exact ⟨rfl, m, rfl⟩
/-- What End answers. -/
def endN (e : Int) (i L : Nat) : Int := if e ≠ 0 then e else if i < L then 4 else 0
end Go.Proofs.YtjklbhdhjfifhaaGreat

/-
  The reader's calls: Number, Piece, Fixed.
-/
namespace Go.Proofs.YtjklbhdhjfifhaaGreat
open Go.RowKit
set_option maxRecDepth 100000
set_option maxHeartbeats 4000000
/-- The error of a reader, written. -/
theorem Rdr.setErr {w : World} {r : Nat} {p : List (BitVec 8)} {i : Nat} {e : Int} (h : Rdr w r p i e) (z : Int) : Rdr (w.setCell ⟨r, 3, none⟩ (.int .i64 z)) r p i z := by
  obtain ⟨a, c, hr, hb, hc, hc0, hn⟩ := h
  have s1 := heap_setCell_same _ r 3 _ 198 (.int .i64 z) hr
  simp only [List.setIfInBounds_toArray, List.set_cons_succ, List.set_cons_zero] at s1
  exact ⟨a, c, s1, hb.turns (turns_cell (Turns.refl (fun j => j = r) w) 3 _) (fun x n c e => Nat.ne_of_lt (hn x (by cases e; rfl))), hc, hc0, hn⟩
theorem Rdr.frozen {w : World} {r : Nat} {p : List (BitVec 8)} {i : Nat} {e : Int} (h : Rdr w r p i e) : w.frozen? ⟨r, 3, none⟩ = false := by
  obtain ⟨a, c, hr, _⟩ := h
  exact frozen_of_row w r 3 _ 198 hr
theorem Rdr.turns {S : Nat → Prop} {w w' : World} {r : Nat} {p : List (BitVec 8)} {i : Nat} {e : Int} (h : Rdr w r p i e) (ht : Turns S w w') (hS : ∀ {k : Nat}, S k → False) : Rdr w' r p i e := by
  obtain ⟨a, c, hr, hb, hc, hc0, hn⟩ := h
  exact ⟨a, c, ht.heap hr hS, hb.turns ht (fun x n c e => hS), hc, hc0, hn⟩
theorem Rdr.keep {S : Nat → Prop} {w w' : World} {r : Nat} {p : List (BitVec 8)} {i : Nat} {e : Int} (h : Rdr w r p i e) (ht : Turns S w w') (hS : ∀ k, S k → r < k) : Rdr w' r p i e := by
  obtain ⟨a, c, hr, hb, hc, hc0, hn⟩ := h
  exact ⟨a, c, ht.heap hr (fun x => by have := hS r x; omega), hb.turns ht (fun x n c e s => by cases e; have := hn x rfl; have := hS _ s; omega), hc, hc0, hn⟩
theorem turnsN {S : Nat → Prop} (w : World) (n : Nat) : Turns S w (w.drewN n) := (Turns.refl _ w).drewN n
theorem rdGo_err : ∀ (l : List (BitVec 8)) (x i : Nat) (z : Int), rdGo x i l = .error z → z = 4 ∨ z = 12
  | [], x, i, z, h => by simp only [rdGo, Except.error.injEq] at h; omega
  | b :: r, x, i, z, h => by
    simp only [rdGo] at h
    split at h
    · simp only [Except.error.injEq] at h; omega
    · split at h
      · simp only [Except.error.injEq] at h; omega
      · split at h
        · cases h
        · exact rdGo_err r _ _ _ h
theorem rdShort_err {l : List (BitVec 8)} {z : Int} (h : rdShort l = .error z) : z = 4 ∨ z = 12 := rdGo_err l _ _ _ h
/-- What Number does. -/
def NumOk (r : Nat) (p : List (BitVec 8)) (i : Nat) (e : Ending) (w' : World) : Except Int (Nat × Nat) → Prop
  | .error z => e = .returned (.int .u64 0) ∧ Rdr w' r p i z
  | .ok (x, k) => e = .returned (.int .u64 (x : Nat)) ∧ Rdr w' r p (i + k) 0
theorem number_ok (r : Nat) (p : List (BitVec 8)) (i : Nat) (w : World) (h : Rdr w r p i 0) (hp : p.length ≤ 1000000) (hi : i ≤ p.length) :
    Calls Tryz.prog 97 #[.pointer (some ⟨r, 0, none⟩)] w fun e w' => NumOk r p i e w' (rdShort (p.drop i)) ∧ Turns (fun j => j = r) w w' := by
  have H := hide h
  clear h
  go_enter Tryz.func97, Tryz.ntmps97
  go_wp2_with fail
  refine (ready_any r p i 0 w H.out).mono ?_
  rintro e w1 ⟨rfl, m, rfl⟩
  rw [decide_eq_true rfl]
  go_wp2_with fail
  refine (rest_any r p i 0 (w.drewN m) (H.out.drewN m) hi).mono ?_
  rintro e w2 ⟨a', c', rfl, hb, hc, m2, hw2⟩
  rw [World.drewN_drewN] at hw2
  subst hw2
  go_wp2_with fail
  refine (readShort_any a' (p.length - i) c' (p.drop i) _ hb (by omega)).mono ?_
  rintro e w3 ⟨rfl, m3, hw3⟩
  rw [World.drewN_drewN] at hw3
  subst hw3
  have H3 := hide (H.out.drewN (m + m2 + m3))
  have T3 := hide (turnsN (S := fun j => j = r) w (m + m2 + m3))
  clear hb
  generalize w.drewN (m + m2 + m3) = w3 at *
  cases hq : rdShort (p.drop i) with
  | error z =>
    have hz : z = 4 ∨ z = 12 := rdShort_err hq
    have HQ := hide hq
    have fz := H3.out.frozen
    obtain ⟨a, c, c0, c1, c2, c3⟩ := H3.out.cells
    clear hq
    simp only [rdVal]
    rcases hz with rfl | rfl
    all_goals go_wp2_with fail
    all_goals go_ret
    all_goals exact ⟨by rw [HQ.out]; exact ⟨rfl, H3.out.setErr _⟩, T3.out.trans (turns_cell (Turns.refl (fun j => j = r) w3) 3 _)⟩
  | ok xk =>
    obtain ⟨x, k⟩ := xk
    have hk := rdShort_le hq
    rw [List.length_drop] at hk
    simp only [rdVal]
    have HK := hide hk
    have HQ := hide hq
    clear hk hq
    go_wp2_with fail
    refine (skip_any r p i k 0 w3 H3.out (by have := HK.out; omega)).mono ?_
    rintro e w4 ⟨⟨v, rfl⟩, h4, t4⟩
    have H4 := hide h4
    have T4 := hide (T3.out.trans t4)
    clear h4 t4
    go_wp2_with fail
    go_ret
    exact ⟨by rw [HQ.out]; exact ⟨rfl, H4.out⟩, T4.out⟩
theorem bytes_first {w : World} {a : Option Addr} {n c : Nat} {l : List (BitVec 8)} (h : Bytes w (.slice a n c) l) (m c' : Nat) (hm : m ≤ n) : Bytes w (.slice a m c') (l.take m) := by
  have hl := h.len
  obtain ⟨a', c'', e, hx⟩ := h
  cases e
  refine ⟨a, c', by rw [List.length_take, Nat.min_eq_left (by omega)], fun k hk => ?_⟩
  rw [List.length_take, Nat.min_eq_left (by omega)] at hk
  obtain ⟨b, off, e, hc⟩ := hx k (by omega)
  refine ⟨b, off, e, ?_⟩
  rw [hc]
  congr 2
  simp [List.getD, hk]
theorem take_any (r : Nat) (p : List (BitVec 8)) (i m : Nat) (e : Int) (w : World) (h : Rdr w r p i e) (hp : p.length ≤ 1000000) (hi : i + m ≤ p.length) :
    Calls Tryz.prog 144 #[.pointer (some ⟨r, 0, none⟩), .int .i64 m] w fun e' w' => ∃ a' c', e' = .returned (.slice a' m c') ∧ Bytes w' (.slice a' m c') ((p.drop i).take m) ∧ (∀ x, a' = some x → w.heap.size ≤ x.block ∧ x.block < w'.heap.size) ∧ Rdr w' r p (i + m) e ∧ Turns (fun j => j = r) w w' := by
  have H := hide h
  have hlt : r < w.heap.size := by
    obtain ⟨_, _, hr, _⟩ := h
    exact lt_of_heap hr
  clear h
  go_enter Tryz.func144, Tryz.ntmps144
  go_wp2_with fail
  refine (rest_any r p i e w H.out (by omega)).mono ?_
  rintro e' w2 ⟨a2, c2, rfl, hb, hc, m2, hw2⟩
  subst hw2
  have hml : m ≤ p.length - i := by omega
  have hb1 := bytes_first hb m c2 hml
  have HB1 := hide hb1
  have hm2 : (m : Int) ≤ ((p.length - i : Nat) : Int) := by omega
  clear hb hb1
  generalize p.length - i = L at *
  go_wp2_with fail
  refine (clone_any a2 m c2 _ (w.drewN m2) HB1.out (by omega)).mono ?_
  rintro e' w3 ⟨a3, c3, rfl, hby3, hblk4, hc3, _, b3⟩
  have hblk3 := hblk4
  have H3 := hide (Rdr.turns (w := w.drewN m2) (S := fun _ => False) (H.out.drewN m2) (Turns.of_below b3 _) (fun x => x))
  have HBY := hide hby3
  have HBLK := hide hblk3
  have T3 := hide ((turnsN (S := fun j => j = r) w m2).trans (Turns.of_below b3 _))
  clear hby3 hblk3 b3
  go_wp2_with fail
  refine (skip_any r p i m e w3 H3.out (by omega)).mono ?_
  rintro e' w4 ⟨⟨v, rfl⟩, h4, t4⟩
  have H4 := hide h4
  have T4 := hide t4
  clear h4 t4
  go_wp2_with fail
  go_ret
  have hb : ∀ x, a3 = some x → w.heap.size ≤ x.block := fun x e => (HBLK.out x e).1
  exact ⟨a3, c3, rfl, HBY.out.turns T4.out (fun x n c e => by cases e; have := hb x rfl; show ¬ x.block = r; omega), fun x e => ⟨hb x e, Nat.lt_of_lt_of_le (HBLK.out x e).2 T4.out.size⟩, H4.out, T3.out.trans T4.out⟩
end Go.Proofs.YtjklbhdhjfifhaaGreat

/-
  The reader's pieces.
-/
namespace Go.Proofs.YtjklbhdhjfifhaaGreat
open Go.RowKit
set_option maxRecDepth 100000
set_option maxHeartbeats 4000000
/-- A reader of which those bytes are left. -/
def RdrL (w : World) (r : Nat) (p rest : List (BitVec 8)) (e : Int) : Prop := ∃ i, i ≤ p.length ∧ p.drop i = rest ∧ Rdr w r p i e
/-- What Piece does. -/
def PieceOk (r : Nat) (p : List (BitVec 8)) (W : Nat) (e : Ending) (w' : World) : Except Int (List (BitVec 8) × List (BitVec 8)) → Prop
  | .error z => e = .returned (.slice none 0 0) ∧ z ≠ 0 ∧ ∃ rest, RdrL w' r p rest z
  | .ok (q, rest) => (∃ a' c', e = .returned (.slice a' q.length c') ∧ Bytes w' (.slice a' q.length c') q ∧ ∀ x, a' = some x → W ≤ x.block) ∧ RdrL w' r p rest 0
theorem piece_any (r : Nat) (p rest : List (BitVec 8)) (w : World) (h : RdrL w r p rest 0) (hp : p.length ≤ 1000000) :
    Calls Tryz.prog 99 #[.pointer (some ⟨r, 0, none⟩)] w fun e w' => PieceOk r p w.heap.size e w' (rdPiece rest) ∧ Turns (fun j => j = r) w w' := by
  obtain ⟨i, hi, rfl, h⟩ := h
  have H := hide h
  clear h
  go_enter Tryz.func99, Tryz.ntmps99
  go_wp2_with fail
  refine (ready_any r p i 0 w H.out).mono ?_
  rintro e w1 ⟨rfl, m, rfl⟩
  rw [decide_eq_true rfl]
  go_wp2_with fail
  refine (rest_any r p i 0 (w.drewN m) (H.out.drewN m) hi).mono ?_
  rintro e w2 ⟨a', c', rfl, hb, hc, m2, hw2⟩
  rw [World.drewN_drewN] at hw2
  subst hw2
  go_wp2_with fail
  refine (readShort_any a' (p.length - i) c' (p.drop i) _ hb (by omega)).mono ?_
  rintro e w3 ⟨rfl, m3, hw3⟩
  rw [World.drewN_drewN] at hw3
  subst hw3
  have H3 := hide (H.out.drewN (m + m2 + m3))
  have T3 := hide (turnsN (S := fun j => j = r) w (m + m2 + m3))
  have hsz : (w.drewN (m + m2 + m3)).heap.size = w.heap.size := rfl
  have HSZ := hide hsz
  clear hb hsz
  generalize w.drewN (m + m2 + m3) = w3 at *
  have fz := H3.out.frozen
  obtain ⟨a, c, c0, c1, c2, c3⟩ := H3.out.cells
  cases hq : rdShort (p.drop i) with
  | error z =>
    have hz : z = 4 ∨ z = 12 := rdShort_err hq
    have hres : rdPiece (p.drop i) = .error z := by unfold rdPiece; rw [hq]
    have HQ := hide hres
    clear hq hres
    simp only [rdVal]
    rcases hz with rfl | rfl
    all_goals go_wp2_with fail
    all_goals go_ret
    all_goals exact ⟨by rw [HQ.out]; exact ⟨rfl, by decide, _, i, hi, rfl, H3.out.setErr _⟩, T3.out.trans (turns_cell (Turns.refl (fun j => j = r) w3) 3 _)⟩
  | ok xk =>
    obtain ⟨x, k⟩ := xk
    have hk := rdShort_le hq
    have hxb := rdShort_bound hq
    rw [List.length_drop] at hk
    obtain ⟨hk0, hk1⟩ := hk
    have hL1 : p.length - i ≤ 1000000 := by omega
    simp only [rdVal]
    have HQ := hide hq
    clear hq
    by_cases hlong : 1048576 < x
    · have hlong' : (1048576 : Int) < (x : Int) := by omega
      have hres : rdPiece (p.drop i) = .error 3 := by unfold rdPiece; rw [HQ.out]; simp only; rw [if_pos hlong]
      have HR := hide hres
      clear hres
      go_wp2_with fail
      go_ret
      exact ⟨by rw [HR.out]; exact ⟨rfl, by decide, _, i, hi, rfl, H3.out.setErr _⟩, T3.out.trans (turns_cell (Turns.refl (fun j => j = r) w3) 3 _)⟩
    · have hlong' : ¬ (1048576 : Int) < (x : Int) := by omega
      go_wp2_with fail
      refine (left_any r p i 0 w3 H3.out hp hi).mono ?_
      rintro e w4 ⟨rfl, m4, hw4⟩
      have H4 := hide (H3.out.drewN m4)
      have T4 := hide (T3.out.drewN m4)
      subst hw4
      have HSZ4 : Hid ((w3.drewN m4).heap.size = w.heap.size) := HSZ.out
      clear c0 c1 c2 c3 fz
      generalize w3.drewN m4 = w4 at *
      have fz := H4.out.frozen
      obtain ⟨a4, c4, d0, d1, d2, d3⟩ := H4.out.cells
      by_cases hmore : p.length - i - k < x
      · have hmore' : ((p.length - i : Nat) : Int) - (k : Int) < (x : Int) := by omega
        have hres : rdPiece (p.drop i) = .error 12 := by
          unfold rdPiece; rw [HQ.out]; simp only; rw [if_neg hlong, if_pos (by rw [List.length_drop]; exact hmore)]
        have HR := hide hres
        clear hres
        generalize p.length - i = L at *
        go_wp2_with fail
        go_ret
        exact ⟨by rw [HR.out]; exact ⟨rfl, by decide, _, i, hi, rfl, H4.out.setErr _⟩, T4.out.trans (turns_cell (Turns.refl (fun j => j = r) w4) 3 _)⟩
      · have hmore' : ¬ ((p.length - i : Nat) : Int) - (k : Int) < (x : Int) := by omega
        have hres : rdPiece (p.drop i) = .ok (((p.drop i).drop k).take x, ((p.drop i).drop k).drop x) := by
          unfold rdPiece; rw [HQ.out]; simp only; rw [if_neg hlong, if_neg (by rw [List.length_drop]; exact hmore)]
        have HR := hide hres
        have hikx : i + k + x ≤ p.length := by omega
        clear hres hmore hlong
        generalize p.length - i = L at *
        go_wp2_with fail
        refine (skip_any r p i k 0 w4 H4.out (by omega)).mono ?_
        rintro e w5 ⟨⟨v, rfl⟩, h5, t5⟩
        have H5 := hide h5
        have T5 := hide (T4.out.trans t5)
        have hs5 := t5.size
        rw [HSZ4.out] at hs5
        have HS5 := hide hs5
        clear h5 t5 hs5
        go_wp2_with fail
        refine (take_any r p (i + k) x 0 w5 H5.out hp hikx).mono ?_
        rintro e w6 ⟨a6, c6, rfl, hb6, hk6, h6, t6⟩
        have H6 := hide h6
        have T6 := hide (T5.out.trans t6)
        have HB6 := hide hb6
        have HK6 := hide hk6
        clear h6 t6 hb6 hk6
        go_wp2_with fail
        go_ret
        have hlx : (((p.drop i).drop k).take x).length = x := by rw [List.length_take, List.length_drop, List.length_drop]; omega
        refine ⟨?_, T6.out⟩
        rw [HR.out]
        refine ⟨⟨a6, c6, by rw [hlx]; rfl, ?_, fun y e => Nat.le_trans HS5.out (HK6.out y e).1⟩, i + k + x, hikx, ?_, H6.out⟩
        · rw [hlx, List.drop_drop]
          exact HB6.out
        · rw [List.drop_drop, List.drop_drop, Nat.add_assoc]
end Go.Proofs.YtjklbhdhjfifhaaGreat
