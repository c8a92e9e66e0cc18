/-
  BloomCalls, walked.
-/
import Derived.Test.YtppikddjdjmakaaCaB
namespace Go.Proofs.Ytppikddjdjmakaa
open Go.RowKit
set_option maxRecDepth 100000
set_option maxHeartbeats 8000000
theorem calls_many (a fa ka : Option Addr) (m c' fn fc kn kc h : Nat) (c n k : Int) (w : World) (hm : 200 < m) :
    Calls Try.prog 4 #[.slice a m c', .int .i64 c, .slice fa fn fc, .slice ka kn kc, .int .u64 (h : Nat), .int .i64 n, .int .i64 k] w fun e w' => e = .returned (.bool true) ∧ Below w.heap.size w w' := by
  have h' : 200 < (m : Int) := by omega
  go_enter Try.func4, Try.ntmps4
  go_wp2_with (go_at_call 8; refine (lives_any _).mono ?_; rintro e w1 ⟨rfl, b1⟩)
  go_ret
  exact ⟨rfl, b1⟩
theorem calls_heavy (a fa ka : Option Addr) (m c' fn fc kn kc h : Nat) (ks : List (List (BitVec 8))) (c n k : Int) (w : World) (hk : Keys w (.slice a m c') ks) (hm : m ≤ 200) (hw : ∀ x, x ∈ ks → x.length ≤ 140737488355328) (hh : 20000 < wtK ks ∨ 20000 < fn ∨ 20000 < kn) :
    Calls Try.prog 4 #[.slice a m c', .int .i64 c, .slice fa fn fc, .slice ka kn kc, .int .u64 (h : Nat), .int .i64 n, .int .i64 k] w fun e w' => e = .returned (.bool true) ∧ Below w.heap.size w w' := by
  have h' : ¬ 200 < (m : Int) := by omega
  have HWG := hide (fun (W : World) (b : Below w.heap.size w W) => weigh_any a m c' ks W (hk.below b) hm hw)
  clear hk hw
  generalize wtK ks = s at *
  by_cases h2 : 20000 < (s : Int)
  · clear hh
    go_enter Try.func4, Try.ntmps4
    go_wp2_with (first | (go_at_call 8; refine (lives_any _).mono ?_; rintro e w1 ⟨rfl, b1⟩) | (go_at_call 10; refine (HWG.out w1 b1).mono ?_; rintro e w2 ⟨rfl, rfl⟩))
    go_ret
    exact ⟨rfl, b1⟩
  · by_cases h3 : 20000 < (fn : Int)
    · clear hh
      go_enter Try.func4, Try.ntmps4
      go_wp2_with (first | (go_at_call 8; refine (lives_any _).mono ?_; rintro e w1 ⟨rfl, b1⟩) | (go_at_call 10; refine (HWG.out w1 b1).mono ?_; rintro e w2 ⟨rfl, rfl⟩))
      go_ret
      exact ⟨rfl, b1⟩
    · have h4 : 20000 < (kn : Int) := by omega
      clear hh
      go_enter Try.func4, Try.ntmps4
      go_wp2_with (first | (go_at_call 8; refine (lives_any _).mono ?_; rintro e w1 ⟨rfl, b1⟩) | (go_at_call 10; refine (HWG.out w1 b1).mono ?_; rintro e w2 ⟨rfl, rfl⟩))
      go_ret
      exact ⟨rfl, b1⟩
theorem calls_ok (a fa ka : Option Addr) (m c' fn fc kn kc h : Nat) (ks : List (List (BitVec 8))) (f key : List (BitVec 8)) (c n k : Int) (w : World) (hk : Keys w (.slice a m c') ks) (hf : Bytes w (.slice fa fn fc) f) (hkey : Bytes w (.slice ka kn kc) key) (hm : m ≤ 200) (hw : wtK ks ≤ 20000) (hfn : fn ≤ 20000) (hkn : kn ≤ 20000) (hh : h < 18446744073709551616) :
    Calls Try.prog 4 #[.slice a m c', .int .i64 c, .slice fa fn fc, .slice ka kn kc, .int .u64 (h : Nat), .int .i64 n, .int .i64 k] w fun e w' => e = .returned (.bool true) ∧ Below w.heap.size w w' := by
  have h1 : ¬ 200 < (m : Int) := by omega
  have h2 : ¬ 20000 < (fn : Int) := by omega
  have h3 : ¬ 20000 < (kn : Int) := by omega
  have HWG := hide (fun (W : World) (b : Below w.heap.size w W) => weigh_any a m c' ks W (hk.below b) hm (fun x hx => by have := wtK_mem hx; omega))
  obtain ⟨bs, er, hbs, hmk, hrmk⟩ := make_both a m c' ks c w hk hm hw
  obtain ⟨x, y, u, hbt, hrbt⟩ := bits_both n c
  obtain ⟨l, er2, hll, hpr, hrpr⟩ := probes_both h n k hh
  have HMK := hide hmk
  have HRMK := hide hrmk
  have HBT := hide hbt
  have HRBT := hide hrbt
  have HPR := hide hpr
  have HRPR := hide hrpr
  have HF := hide (fun (W : World) (b : Below w.heap.size w W) => hf.below b)
  have HKEY := hide (fun (W : World) (b : Below w.heap.size w W) => hkey.below b)
  clear hmk hrmk hbt hrbt hpr hrpr hf hkey hk
  generalize wtK ks = s at *
  have h4 : ¬ 20000 < (s : Int) := by omega
  go_enter Try.func4, Try.ntmps4
  go_wp2_with fail
  refine (lives_any _).mono ?_
  rintro e w1 ⟨rfl, b1⟩
  have B1 := hide b1
  clear b1
  go_wp2_with fail
  refine (HWG.out w1 B1.out).mono ?_
  rintro e w1' ⟨rfl, hw1⟩
  subst hw1
  have hs1 := B1.out.size
  go_wp2_with fail
  refine (HMK.out w1' B1.out).mono ?_
  rintro e w2 ⟨a1, n1, c1, rfl, x1, b2⟩
  have X1 := hide x1
  have B2 := hide (B1.out.trans (b2.mono hs1))
  have hs2 := B2.out.size
  clear x1 b2 HMK B1 HWG
  go_wp2_with fail
  refine (HRMK.out w2 B2.out).mono ?_
  rintro e w3 ⟨a2, n2, c2, rfl, x2, b3⟩
  have X1 := hide (X1.out.below b3)
  have X2 := hide x2
  have B3 := hide (B2.out.trans (b3.mono hs2))
  have hs3 := B3.out.size
  clear x2 b3 HRMK B2
  go_wp2_with fail
  refine (HBT.out w3).mono ?_
  rintro e w3' ⟨rfl, hw3⟩
  subst hw3
  go_wp2_with fail
  refine (HRBT.out w3').mono ?_
  rintro e w4 ⟨rfl, hw4⟩
  subst hw4
  go_wp2_with fail
  refine (HPR.out w4).mono ?_
  rintro e w5 ⟨a3, n3, c3, rfl, x3, b5⟩
  have X1 := hide (X1.out.below b5)
  have X2 := hide (X2.out.below b5)
  have X3 := hide x3
  have B5 := hide (B3.out.trans (b5.mono hs3))
  have hs5 := B5.out.size
  clear x3 b5 HPR B3
  go_wp2_with fail
  refine (HRPR.out w5).mono ?_
  rintro e w6 ⟨a4, n4, c4, rfl, x4, b6⟩
  have X1 := hide (X1.out.below b6)
  have X2 := hide (X2.out.below b6)
  have X3 := hide (X3.out.below b6)
  have X4 := hide x4
  have B6 := hide (B5.out.trans (b6.mono hs5))
  have hs6 := B6.out.size
  clear x4 b6 HRPR B5
  have hl1 := X1.out.len
  have hl3 := X3.out.len
  have HBY := hide (bytes_any a1 a2 n1 n2 c1 c2 bs bs w6 X1.out X2.out (by omega))
  have HIN := hide (fun j => ints_any a3 a4 n3 n4 c3 c4 l l (w6.drewN j) X3.out X4.out (by omega))
  have hn2 : n2 ≤ 10000 := by have := X2.out.len; omega
  rw [decide_eq_true (rfl : bs = bs)] at HBY
  rw [show decide (l = l) = true from decide_eq_true rfl] at HIN
  clear hl1 hl3
  go_wp2_with fail
  refine HBY.out.mono ?_
  rintro e w7 ⟨rfl, j7, hw7⟩
  subst hw7
  go_wp2_with fail
  refine (HIN.out j7).mono ?_
  rintro e w8 ⟨rfl, j8, hw8⟩
  have B8 : Hid (Below w.heap.size w w8) := hide (by rw [hw8]; exact ⟨B6.out.os, B6.out.tape, B6.out.output, B6.out.size, B6.out.block⟩)
  have X2 : Hid (Bytes w8 (.slice a2 n2 c2) bs) := hide (by rw [hw8]; exact X2.out)
  have hs8 := B8.out.size
  clear hw8 HBY HIN X1 X3 X4 B6
  have HO1 := hide (own_any ka kn kc key w8 (HKEY.out w8 B8.out) (by omega))
  go_wp2_with fail
  refine HO1.out.mono ?_
  rintro e w9 ⟨g9, c9, rfl, _, _, r9, b9⟩
  have hkl := (HKEY.out w8 B8.out).len
  have Y9 := hide (r9.bytes (c' := c9) hkl)
  have X2 := hide (X2.out.below b9)
  have B9 := hide (B8.out.trans (b9.mono hs8))
  have hs9 := B9.out.size
  clear r9 b9 HO1 B8 hkl
  go_wp2_with fail
  refine (hash_any _ _ _ _ _ Y9.out (by omega)).mono ?_
  rintro e w9' ⟨rfl, hw9⟩
  subst hw9
  clear Y9
  go_wp2_with fail
  refine (rhash_any _ _ _ _ _ (HKEY.out _ B9.out) (by omega)).mono ?_
  rintro e w10 ⟨rfl, hw10⟩
  subst hw10
  generalize (hashB key).toNat = hv
  have HO2 := hide (own_any fa fn fc f w10 (HF.out w10 B9.out) (by omega))
  go_wp2_with fail
  refine HO2.out.mono ?_
  rintro e w11 ⟨g11, c11, rfl, _, _, r11, b11⟩
  have hfl := (HF.out w10 B9.out).len
  have Y11 := hide (r11.bytes (c' := c11) hfl)
  have X2 := hide (X2.out.below b11)
  have B11 := hide (B9.out.trans (b11.mono hs9))
  have hs11 := B11.out.size
  clear r11 b11 HO2 B9 hfl
  go_wp2_with fail
  refine (has_any _ _ _ _ _ _ _ _ _ Y11.out (HKEY.out w11 B11.out) (by omega)).mono ?_
  rintro e w12 ⟨rfl, b12⟩
  have X2 := hide (X2.out.below b12)
  have B12 := hide (B11.out.trans (b12.mono hs11))
  have hs12 := B12.out.size
  clear b12 B11 Y11
  go_wp2_with fail
  refine (rhas_any _ _ _ _ _ _ _ _ _ (HF.out w12 B12.out) (HKEY.out w12 B12.out) (by omega)).mono ?_
  rintro e w13 ⟨rfl, b13⟩
  have X2 := hide (X2.out.below b13)
  have B13 := hide (B12.out.trans (b13.mono hs12))
  have hs13 := B13.out.size
  clear b13 B12
  generalize hasB f key = bb
  have HO3 := hide (own_any a2 n2 c2 bs w13 X2.out (by omega))
  go_wp2_with fail
  refine HO3.out.mono ?_
  rintro e w14 ⟨g14, c14, rfl, _, _, r14, b14⟩
  have hbl := X2.out.len
  have Y14 := hide (r14.bytes (c' := c14) hbl)
  have X2 := hide (X2.out.below b14)
  have B14 := hide (B13.out.trans (b14.mono hs13))
  have hs14 := B14.out.size
  clear r14 b14 HO3 B13 hbl
  go_wp2_with fail
  refine (has_any _ _ _ _ _ _ _ _ _ Y14.out (HKEY.out w14 B14.out) (by omega)).mono ?_
  rintro e w15 ⟨rfl, b15⟩
  have X2 := hide (X2.out.below b15)
  have B15 := hide (B14.out.trans (b15.mono hs14))
  have hs15 := B15.out.size
  clear b15 B14 Y14
  go_wp2_with fail
  refine (rhas_any _ _ _ _ _ _ _ _ _ X2.out (HKEY.out w15 B15.out) (by omega)).mono ?_
  rintro e w16 ⟨rfl, b16⟩
  have B16 := hide (B15.out.trans (b16.mono hs15))
  clear b16 B15
  generalize hasB bs key = bc
  go_wp2_with fail
  go_ret
  exact ⟨rfl, B16.out⟩
theorem calls_any (a fa ka : Option Addr) (m c' fn fc kn kc h : Nat) (ks : List (List (BitVec 8))) (f key : List (BitVec 8)) (c n k : Int) (w : World) (hk : Keys w (.slice a m c') ks) (hf : Bytes w (.slice fa fn fc) f) (hkey : Bytes w (.slice ka kn kc) key) (hw : ∀ x, x ∈ ks → x.length ≤ 140737488355328) (hh : h < 18446744073709551616) :
    Calls Try.prog 4 #[.slice a m c', .int .i64 c, .slice fa fn fc, .slice ka kn kc, .int .u64 (h : Nat), .int .i64 n, .int .i64 k] w fun e w' => e = .returned (.bool true) ∧ Below w.heap.size w w' := by
  by_cases h1 : 200 < m
  · exact calls_many a fa ka m c' fn fc kn kc h c n k w h1
  · by_cases h2 : 20000 < wtK ks ∨ 20000 < fn ∨ 20000 < kn
    · exact calls_heavy a fa ka m c' fn fc kn kc h ks c n k w hk (by omega) hw h2
    · exact calls_ok a fa ka m c' fn fc kn kc h ks f key c n k w hk hf hkey (by omega) (by omega) (by omega) (by omega) hh
end Go.Proofs.Ytppikddjdjmakaa
