import Derived.Test.YtmmcikbedegigaaGreatM06
import Derived.WalkMore
/-
  The reader: its state in memory, and how a short number is read.
-/
namespace Go.Proofs.YtmmcikbedegigaaGreat
open Go.RowKit
set_option maxRecDepth 100000
set_option maxHeartbeats 4000000
theorem turns_cell {G : Nat} {a w : World} (h : Turns (fun j => j = G) a w) (o : Nat) (v : Value) : Turns (fun j => j = G) a (w.setCell ⟨G, o, none⟩ v) :=
  h.trans ⟨rfl, rfl, rfl, by simp, fun k _ hn => heap_setCell_other _ _ _ _ (by exact hn)⟩
/-- A reader: its bytes, how many are gone over, its error. -/
def Rdr (w : World) (r : Nat) (p : List (BitVec 8)) (i : Nat) (e : Int) : Prop :=
  ∃ (a : Option Addr) (c : Nat), w.heap[r]? = some (.cells #[.slice a p.length c, .int .i64 (i : Nat), .bool true, .int .i64 e] 114 (0, 0)) ∧ Bytes w (.slice a p.length c) p ∧ p.length ≤ c ∧ (a = none → c = 0) ∧ (∀ x, a = some x → x.block < r)
theorem wrapU (z : Int) (h0 : 0 ≤ z) (h1 : z < 18446744073709551616) : IntKind.u64.wrap z = z := by rw [IntKind.wrap_u64]; omega
theorem or_add (y v j : Nat) (h : y < 2 ^ j) (hv : y + v * 2 ^ j < 2 ^ 64) : bits .or .u64 (y : Int) (IntKind.u64.wrap ((v : Int) * 2 ^ j)) = ((y + v * 2 ^ j : Nat) : Int) := by
  have h1 : ((v : Int) * 2 ^ j) = ((v * 2 ^ j : Nat) : Int) := by simp [Int.natCast_mul]
  rw [h1, wrapU _ (by omega) (by omega)]
  show IntKind.u64.wrap ((BitVec.ofInt 64 (y : Int) ||| BitVec.ofInt 64 ((v * 2 ^ j : Nat) : Int)).toNat : Int) = _
  rw [BitVec.ofInt_natCast, BitVec.ofInt_natCast, BitVec.toNat_or, BitVec.toNat_ofNat, BitVec.toNat_ofNat, Nat.mod_eq_of_lt (by omega), Nat.mod_eq_of_lt (by omega)]
  have h2 : y ||| v * 2 ^ j = y + v * 2 ^ j := by
    rw [Nat.or_comm, Nat.mul_comm, ← Nat.two_pow_add_eq_or_of_lt h, Nat.add_comm]
  rw [h2, wrapU _ (by omega) (by omega)]
theorem pow7 (k : Nat) : 2 ^ (7 * (k + 1)) = 128 * 2 ^ (7 * k) := by rw [Nat.mul_add, Nat.pow_add, Nat.mul_comm]
theorem add_lt (y v k : Nat) (h : y < 2 ^ (7 * k)) (hv : v < 128) : y + v * 2 ^ (7 * k) < 2 ^ (7 * (k + 1)) := by
  have hm : (v + 1) * 2 ^ (7 * k) ≤ 128 * 2 ^ (7 * k) := Nat.mul_le_mul_right _ (by omega)
  rw [pow7]
  rw [Nat.add_mul] at hm
  omega
theorem pow63 (k : Nat) (h : k < 9) : 2 ^ (7 * (k + 1)) ≤ 2 ^ 63 := Nat.pow_le_pow_right (by decide) (by omega)
/-- What a short number's reading answers. -/
def rdVal (o : Except Int (Nat × Nat)) : Value :=
  match o with
  | .error z => .tuple #[.int .u64 0, .int .i64 0, .int .i64 z]
  | .ok (x, k) => .tuple #[.int .u64 (x : Nat), .int .i64 (k : Nat), .int .i64 0]
theorem readShort_any (a : Option Addr) (n c : Nat) (l : List (BitVec 8)) (w : World) (h : Bytes w (.slice a n c) l) (hn : n ≤ 1000000) :
    Calls Tryz.prog 85 #[.slice a n c] w fun e w' => e = .returned (rdVal (rdShort l)) ∧ ∃ m, w' = w.drewN m := by
  have hl := h.len
  have H := hide h
  have HL := hide hl
  clear h hl
  go_enter Tryz.func85, Tryz.ntmps85
  go_wp2_with fail
  go_step3
  go_wp2_with fail
  go_step3
  go_wp2_with fail
  go_loopw [2, 3, 4] (fun x i e wr => ∃ (k y : Nat), x = .int .u64 (y : Nat) ∧ i = .int .i64 (k : Nat) ∧ e = .int .i64 0 ∧ k ≤ n ∧ k ≤ 9 ∧ y < 2 ^ (7 * k) ∧ rdGo y k (l.drop k) = rdShort l ∧ ∃ m, wr = w.drewN m) (fun _ i _ _ => n - (intOf i).toNat)
  case atStart => exact ⟨0, 0, rfl, rfl, rfl, Nat.zero_le _, by decide, by decide, rfl, 0, rfl⟩
  case round =>
    obtain ⟨k, y, rfl, rfl, rfl, hk, hk9, hy, hrd, m, rfl⟩ := hrel
    have HRD := hide hrd
    have HY := hide hy
    clear hrd hy
    by_cases hkn : k < n
    · obtain ⟨b, off, rfl⟩ := H.out.addr (by omega)
      have hkl : k < l.length := by have := HL.out; omega
      have hc := H.out.at k hkl
      have hd : l.getD k 0 = l[k] := by simp [List.getD, hkl]
      rw [hd] at hc
      have hdrop : l.drop k = l[k] :: l.drop (k + 1) := List.drop_eq_getElem_cons hkl
      have HDR := hide hdrop
      have hb := l[k].isLt
      generalize l[k] = q at *
      have i1 : (k : Int) < (n : Int) := by omega
      have i0 : (0 : Int) ≤ (k : Int) := by omega
      have i2 : ¬ (k : Int) = (n : Int) := by omega
      generalize hq : q.toNat = z at *
      have HQ := hide hq
      clear hd hdrop hq
      by_cases h9 : k = 9
      · subst h9
        by_cases h1 : 1 < z
        · have h1' : (1 : Int) < (z : Int) := by omega
          have hres : rdShort l = .error 4 := by rw [← HRD.out, HDR.out, rdGo, if_pos ⟨rfl, by rw [HQ.out]; exact h1⟩]
          have HRES := hide hres
          clear hres
          go_wp2_with fail
          rw [Exit.noGoto_ret]
          go_returns
          exact ⟨by rw [HRES.out]; rfl, m, rfl⟩
        · have h1' : ¬ (1 : Int) < (z : Int) := by omega
          by_cases hz : z = 0
          · subst hz
            have hres : rdShort l = .error 4 := by rw [← HRD.out, HDR.out, rdGo, if_neg (by rw [HQ.out]; rintro ⟨_, e⟩; omega), if_pos ⟨by decide, HQ.out⟩]
            have HRES := hide hres
            clear hres
            go_wp2_with fail
            try rw [Exit.noGoto_ret]
            go_returns
            exact ⟨by rw [HRES.out]; rfl, m, rfl⟩
          · obtain rfl : z = 1 := by omega
            have hres : rdShort l = .ok (y + 1 * 2 ^ (7 * 9), 9 + 1) := by rw [← HRD.out, HDR.out, rdGo, HQ.out, if_neg (by rintro ⟨_, e⟩; omega), if_neg (by rintro ⟨_, e⟩; omega), if_pos (by decide)]
            have HRES := hide hres
            have hor := or_add y 1 (7 * 9) HY.out (by have := HY.out; omega)
            have e63 : IntKind.u64.wrap (((1 : Nat) : Int) * 2 ^ (7 * 9)) = 9223372036854775808 := by rw [wrapU _ (by decide) (by decide)]; decide
            rw [e63] at hor
            clear e63
            clear hres
            generalize y + 1 * 2 ^ (7 * 9) = y2 at *
            go_wp2_with fail
            all_goals try rw [Exit.noGoto_ret]
            all_goals go_returns
            all_goals exact ⟨by rw [HRES.out]; first | rfl | (rw [← hor]; rfl), m, rfl⟩
      · have h9' : ¬ (k : Int) = 9 := by omega
        by_cases h0 : 0 < k ∧ z = 0
        · obtain ⟨h00, rfl⟩ := h0
          have h00' : (0 : Int) < (k : Int) := by omega
          have hres : rdShort l = .error 4 := by rw [← HRD.out, HDR.out, rdGo, if_neg (by rintro ⟨e, _⟩; exact h9 e), if_pos ⟨h00, HQ.out⟩]
          have HRES := hide hres
          clear hres
          go_wp2_with fail
          rw [Exit.noGoto_ret]
          go_returns
          exact ⟨by rw [HRES.out]; rfl, m, rfl⟩
        · by_cases h128 : z < 128
          · have h128' : (z : Int) < 128 := by omega
            have hres : rdShort l = .ok (y + z * 2 ^ (7 * k), k + 1) := by rw [← HRD.out, HDR.out, rdGo, HQ.out, if_neg (by rintro ⟨e, _⟩; exact h9 e), if_neg h0, if_pos h128]
            have HRES := hide hres
            have hor := or_add y z (7 * k) HY.out (Nat.lt_of_lt_of_le (add_lt y z k HY.out h128) (Nat.le_trans (pow63 k (by omega)) (by decide)))
            clear hres
            generalize y + z * 2 ^ (7 * k) = y2 at *
            go_wp2_with fail
            all_goals rw [Exit.noGoto_ret]
            all_goals go_returns
            all_goals exact ⟨by rw [HRES.out]; first | rfl | (rw [← hor]; rfl), m, rfl⟩
          · have h128' : ¬ (z : Int) < 128 := by omega
            have hz0 : ¬ (z : Int) = 0 := by omega
            have hres : rdGo (y + (z - 128) * 2 ^ (7 * k)) (k + 1) (l.drop (k + 1)) = rdShort l := by rw [← HRD.out, HDR.out, rdGo, HQ.out, if_neg (by rintro ⟨e, _⟩; exact h9 e), if_neg h0, if_neg h128]
            have HRES := hide hres
            have hl2 := add_lt y (z - 128) k HY.out (by omega)
            have hor := or_add y (z - 128) (7 * k) HY.out (Nat.lt_of_lt_of_le hl2 (Nat.le_trans (pow63 k (by omega)) (by decide)))
            rw [show ((z - 128 : Nat) : Int) = (z : Int) - 128 by omega] at hor
            have HL2 := hide hl2
            clear hres hl2
            generalize y + (z - 128) * 2 ^ (7 * k) = y2 at *
            go_wp2_with fail
            all_goals go_roundw
            case rel => exact ⟨k + 1, y2, by first | rfl | rw [hor], by go_num, rfl, by omega, by omega, HL2.out, HRES.out, m, rfl⟩
            case rel => exact ⟨k + 1, y2, by first | rfl | rw [hor], by go_num, rfl, by omega, by omega, HL2.out, HRES.out, m, rfl⟩
            all_goals simp [intOf]; omega
    · obtain rfl : k = n := by omega
      have hres : rdShort l = .error 12 := by rw [← HRD.out, List.drop_eq_nil_of_le (by have := HL.out; omega)]; rfl
      have HRES := hide hres
      clear hres
      go_wp2_with fail
      rw [Exit.noGoto_ret]
      go_returns
      exact ⟨by rw [HRES.out]; rfl, m, rfl⟩
end Go.Proofs.YtmmcikbedegigaaGreat

/-
  The reader's calls: Number, Piece, Fixed, Err, End.
-/
namespace Go.Proofs.YtmmcikbedegigaaGreat
open Go.RowKit
set_option maxRecDepth 100000
set_option maxHeartbeats 4000000
theorem bytes_add {w : World} {ad : Addr} {L c : Nat} {p : List (BitVec 8)} (h : Bytes w (.slice (some ad) L c) p) (i : Nat) (hi : i ≤ L) (c' : Nat) : Bytes w (.slice (some (ad.add i)) (L - i) c') (p.drop i) := by
  have hl := h.len
  rcases Nat.eq_zero_or_pos (L - i) with h0 | h0
  · rw [h0, List.drop_eq_nil_of_le (by omega)]
    exact Bytes.nothing _ _
  · obtain ⟨b, off, e⟩ := h.addr (by omega)
    cases e
    have := h.part i (L - i) c' (by omega)
    rw [List.take_of_length_le (by rw [List.length_drop]; omega)] at this
    rw [Go.WideShapes.add_plain]
    exact this
theorem bytes_end {w : World} (a : Option Addr) {L c : Nat} {p : List (BitVec 8)} (i : Nat) (hl : p.length = L) (h : L - i = 0) : Bytes w (.slice a (L - i) c) (p.drop i) := by
  rw [h, List.drop_eq_nil_of_le (by omega)]
  exact Bytes.nothing _ _
theorem rest_any (r : Nat) (p : List (BitVec 8)) (i : Nat) (e : Int) (w : World) (h : Rdr w r p i e) (hi : i ≤ p.length) :
    Calls Tryz.prog 86 #[.pointer (some ⟨r, 0, none⟩)] w fun e w' => ∃ a' c', e = .returned (.slice a' (p.length - i) c') ∧ Bytes w' (.slice a' (p.length - i) c') (p.drop i) ∧ p.length - i ≤ c' ∧ ∃ m, w' = w.drewN m := by
  obtain ⟨a, c, hr, hb, hc, hc0, hn⟩ := h
  have c0 := cell_of_row w _ 0 _ 114 (0, 0) hr
  have c1 := cell_of_row w _ 1 _ 114 (0, 0) hr
  simp at c0 c1
  have HB := hide hb
  clear hb hr hn
  have i1 : (i : Int) ≤ (p.length : Int) := by omega
  generalize hL : p.length = L at *
  have HL := hide hL
  clear hL
  cases a with
  | none =>
    obtain rfl := hc0 rfl
    obtain rfl : L = 0 := by omega
    obtain rfl : i = 0 := by omega
    go_enter Tryz.func86, Tryz.ntmps86
    go_wp2_with fail
    go_quiet (fail)
    go_wp2_with fail
    go_ret
    exact ⟨none, 0, rfl, bytes_end none 0 HL.out rfl, Nat.le_refl _, nq, rfl⟩
  | some ad =>
    clear hc0
    go_enter Tryz.func86, Tryz.ntmps86
    go_wp2_with fail
    go_quiet (fail)
    go_wp2_with fail
    all_goals go_ret
    · exact ⟨_, _, rfl, bytes_end _ i HL.out (by omega), by omega, nq, rfl⟩
    · exact ⟨_, _, rfl, bytes_add HB.out i hi _, by omega, nq, rfl⟩
theorem skip_any (r : Nat) (p : List (BitVec 8)) (i m : Nat) (e : Int) (w : World) (h : Rdr w r p i e) (hi : i + m ≤ 1000000) :
    Calls Tryz.prog 87 #[.pointer (some ⟨r, 0, none⟩), .int .i64 m] w fun e' w' => (∃ v, e' = .returned v) ∧ Rdr w' r p (i + m) e ∧ Turns (fun j => j = r) w w' := by
  obtain ⟨a, c, hr, hb, hc, hc0, hn⟩ := h
  have c1 := cell_of_row w _ 1 _ 114 (0, 0) hr
  simp at c1
  have z1 := frozen_of_row w r 1 _ 114 hr
  have HR := hide hr
  have HB := hide hb
  clear hr hb
  go_enter Tryz.func87, Tryz.ntmps87
  go_wp2_with fail
  go_end0
  have ht := turns_cell (Turns.refl (fun j => j = r) w) 1 (.int .i64 ((i : Int) + (m : Int)))
  refine ⟨⟨_, rfl⟩, ⟨a, c, ?_, HB.out.turns ht (fun x n c e => Nat.ne_of_lt (hn x (by cases e; rfl))), hc, hc0, hn⟩, ht⟩
  have s1 := heap_setCell_same _ r 1 _ 114 (.int .i64 ((i : Int) + (m : Int))) HR.out
  simp only [List.setIfInBounds_toArray, List.set_cons_succ, List.set_cons_zero] at s1
  exact s1
theorem Rdr.cells {w : World} {r : Nat} {p : List (BitVec 8)} {i : Nat} {e : Int} (h : Rdr w r p i e) : ∃ a c, w.cell? ⟨r, 0, none⟩ = some (.slice a p.length c) ∧ w.cell? ⟨r, 1, none⟩ = some (.int .i64 (i : Nat)) ∧ w.cell? ⟨r, 2, none⟩ = some (.bool true) ∧ w.cell? ⟨r, 3, none⟩ = some (.int .i64 e) := by
  obtain ⟨a, c, hr, _⟩ := h
  exact ⟨a, c, cell_of_row w _ 0 _ 114 (0, 0) hr, cell_of_row w _ 1 _ 114 (0, 0) hr, cell_of_row w _ 2 _ 114 (0, 0) hr, cell_of_row w _ 3 _ 114 (0, 0) hr⟩
theorem Rdr.drewN {w : World} {r : Nat} {p : List (BitVec 8)} {i : Nat} {e : Int} (h : Rdr w r p i e) (m : Nat) : Rdr (w.drewN m) r p i e := h
theorem made_any (r : Nat) (p : List (BitVec 8)) (i : Nat) (e : Int) (w : World) (h : Rdr w r p i e) :
    Calls Tryz.prog 88 #[.pointer (some ⟨r, 0, none⟩)] w fun e' w' => e' = .returned (.bool true) ∧ ∃ m, w' = w.drewN m := by
  obtain ⟨a, c, c0, c1, c2, c3⟩ := h.cells
  go_enter Tryz.func88, Tryz.ntmps88
  go_wp2_with fail
  go_ret
  exact ⟨rfl, 0, rfl⟩
theorem ready_any (r : Nat) (p : List (BitVec 8)) (i : Nat) (e : Int) (w : World) (h : Rdr w r p i e) :
    Calls Tryz.prog 84 #[.pointer (some ⟨r, 0, none⟩)] w fun e' w' => e' = .returned (.bool (decide (e = 0))) ∧ ∃ m, w' = w.drewN m := by
  obtain ⟨a, c, c0, c1, c2, c3⟩ := h.cells
  have H := hide h
  clear h
  go_enter Tryz.func84, Tryz.ntmps84
  go_wp2_with fail
  refine (made_any r p i e w H.out).mono ?_
  rintro e' w1 ⟨rfl, m, rfl⟩
  by_cases h0 : e = 0
  · subst h0
    go_wp2_with fail
    go_ret
    exact ⟨rfl, m, rfl⟩
  · have h0' : (e == 0) = false := by simpa using h0
    go_wp2_with fail
    go_ret
    exact ⟨congrArg Ending.returned (congrArg Value.bool (by simp [h0])), m, rfl⟩
theorem left_any (r : Nat) (p : List (BitVec 8)) (i : Nat) (e : Int) (w : World) (h : Rdr w r p i e) (hp : p.length ≤ 1000000) (hi : i ≤ p.length) :
    Calls Tryz.prog 90 #[.pointer (some ⟨r, 0, none⟩)] w fun e' w' => e' = .returned (.int .i64 ((p.length - i : Nat) : Int)) ∧ ∃ m, w' = w.drewN m := by
  obtain ⟨a, c, c0, c1, c2, c3⟩ := h.cells
  have i1 : (i : Int) ≤ (p.length : Int) := by omega
  generalize p.length = L at *
  clear h
  go_enter Tryz.func90, Tryz.ntmps90
  go_wp2_with fail
  go_quiet (fail)
  go_wp2_with fail
  go_ret
  exact ⟨congrArg Ending.returned (congrArg (Value.int .i64) (by omega)), nq, rfl⟩
theorem err_any (r : Nat) (p : List (BitVec 8)) (i : Nat) (e : Int) (w : World) (h : Rdr w r p i e) :
    Calls Tryz.prog 66 #[.pointer (some ⟨r, 0, none⟩)] w fun e' w' => e' = .returned (.int .i64 e) ∧ ∃ m, w' = w.drewN m := by
  obtain ⟨a, c, c0, c1, c2, c3⟩ := h.cells
  have H := hide h
  clear h
  go_enter Tryz.func66, Tryz.ntmps66
  go_wp2_with fail
  refine (made_any r p i e w H.out).mono ?_
  rintro e' w1 ⟨rfl, m, rfl⟩
  go_wp2_with fail
  go_ret
  exact ⟨rfl, m, rfl⟩
/-- What End answers. -/
def endN (e : Int) (i L : Nat) : Int := if e ≠ 0 then e else if i < L then 4 else 0
theorem end_any (r : Nat) (p : List (BitVec 8)) (i : Nat) (e : Int) (w : World) (h : Rdr w r p i e) (hp : p.length ≤ 1000000) (hi : i ≤ p.length) :
    Calls Tryz.prog 70 #[.pointer (some ⟨r, 0, none⟩)] w fun e' w' => e' = .returned (.int .i64 (endN e i p.length)) ∧ ∃ m, w' = w.drewN m := by
  have H := hide h
  clear h
  go_enter Tryz.func70, Tryz.ntmps70
  go_wp2_with fail
  refine (err_any r p i e w H.out).mono ?_
  rintro e' w1 ⟨rfl, m, rfl⟩
  by_cases h0 : e = 0
  · subst h0
    go_wp2_with fail
    refine (left_any r p i 0 (w.drewN m) (H.out.drewN m) hp hi).mono ?_
    rintro e' w2 ⟨rfl, m2, hw2⟩
    rw [World.drewN_drewN] at hw2
    subst hw2
    by_cases hlt : i < p.length
    · have hlt' : (0 : Int) < ((p.length - i : Nat) : Int) := by omega
      have HLT := hide hlt
      clear hlt
      generalize p.length - i = d at *
      go_wp2_with fail
      go_ret
      exact ⟨by rw [endN, if_neg (by simp), if_pos HLT.out]; rfl, _, rfl⟩
    · have hd : p.length - i = 0 := by omega
      rw [hd]
      have HLT := hide hlt
      clear hlt hd
      go_wp2_with fail
      go_ret
      exact ⟨by rw [endN, if_neg (by simp), if_neg HLT.out]; rfl, _, rfl⟩
  · have h0' : (e != 0) = true := by simpa using h0
    go_wp2_with fail
    go_ret
    exact ⟨by rw [endN, if_pos h0]; rfl, m, rfl⟩
end Go.Proofs.YtmmcikbedegigaaGreat
