/-
  The document's answer: Bits, Probes.
-/
import Derived.Test.YtppikddjdjmakaaPb
import Derived.Deep.Light
namespace Go.Proofs.Ytppikddjdjmakaa
open Go.RowKit
set_option maxRecDepth 100000
set_option maxHeartbeats 4000000
theorem rbits_arg (m c : Int) (h : m < 0 ∨ c < 1 ∨ 64 < c) (w : World) : Calls Try.prog 12 #[.int .i64 m, .int .i64 c] w fun e w' => e = .returned (.tuple #[.int .i64 0, .int .i64 0, .int .i64 2]) ∧ w' = w := by
  by_cases h1 : m < 0
  · go_enter Try.func12, Try.ntmps12
    go_wp2_with fail
    exact bodyPost_ret (v := .tuple #[.int .i64 0, .int .i64 0, .int .i64 2]) (by simp [results, Try.results12, go_sem]) rfl ⟨rfl, rfl⟩
  · by_cases h2 : c < 1
    · clear h
      go_enter Try.func12, Try.ntmps12
      go_wp2_with fail
      exact bodyPost_ret (v := .tuple #[.int .i64 0, .int .i64 0, .int .i64 2]) (by simp [results, Try.results12, go_sem]) rfl ⟨rfl, rfl⟩
    · have h3 : 64 < c := by omega
      clear h
      go_enter Try.func12, Try.ntmps12
      go_wp2_with fail
      exact bodyPost_ret (v := .tuple #[.int .i64 0, .int .i64 0, .int .i64 2]) (by simp [results, Try.results12, go_sem]) rfl ⟨rfl, rfl⟩
theorem rbits_long (m c : Int) (h0 : 0 ≤ m) (h1 : 1 ≤ c) (h2 : c ≤ 64) (h : 8388608 < m * c) (w : World) : Calls Try.prog 12 #[.int .i64 m, .int .i64 c] w fun e w' => e = .returned (.tuple #[.int .i64 0, .int .i64 0, .int .i64 3]) ∧ w' = w := by
  have n1 : ¬ m < 0 := by omega
  have n2 : ¬ c < 1 := by omega
  have n3 : ¬ 64 < c := by omega
  by_cases hm : 8388608 < m
  · clear h
    go_enter Try.func12, Try.ntmps12
    go_wp2_with fail
    exact bodyPost_ret (v := .tuple #[.int .i64 0, .int .i64 0, .int .i64 3]) (by simp [results, Try.results12, go_sem]) rfl ⟨rfl, rfl⟩
  · have hmc : m * c ≤ 8388608 * 64 := Int.mul_le_mul (by omega) h2 (by omega) (by omega)
    have h64 : ¬ m * c < 64 := by omega
    have h65 : 64 < m * c := by omega
    have hq : 8388608 < (m * c + 7) / 8 * 8 := by omega
    go_enter Try.func12, Try.ntmps12
    go_wp2_with fail
    all_goals exact bodyPost_ret (v := .tuple #[.int .i64 0, .int .i64 0, .int .i64 3]) (by simp [results, Try.results12, go_sem]) rfl ⟨rfl, rfl⟩
theorem rbits_ok (m c : Nat) (h1 : 1 ≤ c) (h2 : c ≤ 64) (h : m * c ≤ 8388608) (w : World) : Calls Try.prog 12 #[.int .i64 (m : Nat), .int .i64 (c : Nat)] w fun e w' => e = .returned (.tuple #[.int .i64 (nBits m c : Nat), .int .i64 (kOf c : Nat), .int .i64 0]) ∧ w' = w := by
  have hI : (m : Int) * (c : Int) ≤ 8388608 := by omega
  have hI0 : (0 : Int) ≤ (m : Int) * (c : Int) := by have := Nat.zero_le (m * c); omega
  have hm : m ≤ 8388608 := by
    have := Nat.le_mul_of_pos_right m (Nat.lt_of_lt_of_le Nat.zero_lt_one h1)
    omega
  have n0 : ¬ 8388608 < (m : Int) := by omega
  have n1 : ¬ (m : Int) < 0 := by omega
  have n2 : ¬ (c : Int) < 1 := by omega
  have n3 : ¬ 64 < (c : Int) := by omega
  have HK : Hid ((kOf c : Int) = min 30 (max 1 ((c : Int) * 69 / 100))) := hide (by unfold kOf; omega)
  by_cases h64 : 64 < (m : Int) * (c : Int)
  · have HN := hide (show (nBits m c : Int) = ((m : Int) * (c : Int) + 7) / 8 * 8 by have : 64 < m * c := (by omega); unfold nBits; omega)
    have hq : ¬ 8388608 < ((m : Int) * (c : Int) + 7) / 8 * 8 := by omega
    clear h
    go_enter Try.func12, Try.ntmps12
    go_wp2_with fail
    all_goals
      refine bodyPost_ret (v := .tuple #[.int .i64 (nBits m c : Nat), .int .i64 (kOf c : Nat), .int .i64 0]) ?_ rfl ⟨rfl, rfl⟩
      have hk := HK.out
      have hn := HN.out
      simp [results, Try.results12, go_sem]
      go_light
      omega
  · have HN := hide (show (nBits m c : Int) = 64 by have : ¬ 64 < m * c := (by omega); unfold nBits; omega)
    clear h
    go_enter Try.func12, Try.ntmps12
    go_wp2_with fail
    all_goals
      refine bodyPost_ret (v := .tuple #[.int .i64 (nBits m c : Nat), .int .i64 (kOf c : Nat), .int .i64 0]) ?_ rfl ⟨rfl, rfl⟩
      have hk := HK.out
      have hn := HN.out
      simp [results, Try.results12, go_sem]
      go_light
      omega
theorem lo32 (h : Nat) : IntKind.u32.wrap (h : Int) = ((h % 4294967296 : Nat) : Int) := by
  simp [IntKind.wrap, IntKind.bits, IntKind.signed]
theorem rprobes_bad (h : Nat) (n k : Int) (w : World) (hb : n < 1 ∨ 8388608 < n ∨ k < 1 ∨ 30 < k) :
    Calls Try.prog 14 #[.int .u64 (h : Nat), .int .i64 n, .int .i64 k] w fun e w' => e = .returned (.tuple #[.slice none 0 0, .int .i64 2]) ∧ w' = w := by
  by_cases h1 : n < 1
  · clear hb
    go_enter Try.func14, Try.ntmps14
    go_wp2_with fail
    go_ret2
    exact ⟨rfl, rfl⟩
  · by_cases h2 : 8388608 < n
    · clear hb
      go_enter Try.func14, Try.ntmps14
      go_wp2_with fail
      go_ret2
      exact ⟨rfl, rfl⟩
    · by_cases h3 : k < 1
      · clear hb
        go_enter Try.func14, Try.ntmps14
        go_wp2_with fail
        go_ret2
        exact ⟨rfl, rfl⟩
      · have h4 : 30 < k := by omega
        clear hb
        go_enter Try.func14, Try.ntmps14
        go_wp2_with fail
        go_ret2
        exact ⟨rfl, rfl⟩
theorem stp32 (h : Nat) (hh : h < 18446744073709551616) : bits .or .u32 ((h : Int) / 4294967296) 1 = ((stp h : Nat) : Int) := by
  have hd : h / 4294967296 < 4294967296 := by omega
  have e : bits .or .u32 (((BitVec.ofNat 32 (h / 4294967296)).toNat : Nat) : Int) ((1#32).toNat : Int) = ((BitVec.ofNat 32 (h / 4294967296) ||| 1#32).toNat : Int) := by
    show IntKind.u32.wrap ((BitVec.ofInt 32 (((BitVec.ofNat 32 (h / 4294967296)).toNat : Nat) : Int) ||| BitVec.ofInt 32 ((1#32).toNat : Int)).toNat : Int) = _
    rw [BitVec.ofInt_natCast, BitVec.ofInt_natCast, BitVec.ofNat_toNat, BitVec.ofNat_toNat, BitVec.setWidth_eq, BitVec.setWidth_eq]
    have := (BitVec.ofNat 32 (h / 4294967296) ||| 1#32).isLt
    generalize (BitVec.ofNat 32 (h / 4294967296) ||| 1#32).toNat = z at *
    simp [IntKind.wrap, IntKind.bits, IntKind.signed]
    omega
  rw [BitVec.toNat_ofNat, Nat.mod_eq_of_lt hd] at e
  rw [show (h : Int) / 4294967296 = ((h / 4294967296 : Nat) : Int) from by omega, show (1 : Int) = ((1#32).toNat : Int) from rfl, e, BitVec.toNat_or, BitVec.toNat_ofNat, Nat.mod_eq_of_lt hd]
  rfl
theorem prb32 (h N i : Nat) : (((h % 4294967296 : Nat) : Int) + (i : Int) * ((stp h : Nat) : Int)) % 4294967296 % (N : Int) = ((prb h N i : Nat) : Int) := by
  unfold prb sumN
  generalize h % 4294967296 = lo
  generalize stp h = st
  rw [Int.natCast_emod, Int.natCast_emod, Int.natCast_add, Int.natCast_mul]
  rfl
theorem rprobes_ok (h N k : Nat) (w : World) (hh : h < 18446744073709551616) (hN1 : 1 ≤ N) (hN2 : N ≤ 8388608) (hk1 : 1 ≤ k) (hk2 : k ≤ 30) :
    Calls Try.prog 14 #[.int .u64 (h : Nat), .int .i64 (N : Nat), .int .i64 (k : Nat)] w fun e w' => ∃ v, e = .returned (.tuple #[v, .int .i64 0]) ∧ IRow w' w.heap.size v (probes h N k) ∧ Below w.heap.size w w' := by
  have n1 : ¬ (N : Int) < 1 := by omega
  have n2 : ¬ 8388608 < (N : Int) := by omega
  have n3 : ¬ (k : Int) < 1 := by omega
  have n4 : ¬ 30 < (k : Int) := by omega
  have hq := stp32 h hh
  have hst := stp_lt h hh
  have hlo : (h : Int) % 4294967296 = ((h % 4294967296 : Nat) : Int) := by omega
  have hlt : h % 4294967296 < 4294967296 := Nat.mod_lt _ (by decide)
  have HPB := hide (fun i => prb32 h N i)
  have HPS := hide (fun i => probes_succ h N i)
  have HPL := hide (fun i => prb_lt h N i hN1)
  generalize stp h = st at *
  generalize h % 4294967296 = lo at *
  go_enter Try.func14, Try.ntmps14
  go_wp2_with fail
  go_loopw [10, 11] (fun v x wr => ∃ i : Nat, x = .int .i64 (i : Nat) ∧ i ≤ k ∧ IRow wr w.heap.size v (probes h N i) ∧ Below w.heap.size w wr) (fun _ x _ => k - (intOf x).toNat)
  case atStart => exact ⟨0, rfl, Nat.zero_le _, .inl ⟨rfl, rfl⟩, Below.refl _ _⟩
  case round =>
    obtain ⟨i, rfl, hi, hR, hb⟩ := hrel
    have HR := hide hR
    have HB := hide hb
    obtain ⟨va, vc, hv⟩ := hR.len
    subst hv
    by_cases hik : i < k
    · have i1 : (i : Int) < (k : Int) := by omega
      have hpi := HPB.out i
      have hps := hide (HPS.out i)
      have hpl := HPL.out i
      have hpn := probes_length h N i
      generalize prb h N i = p at *
      obtain ⟨g', n', c2, w', hrun, hrow, ht, hb', _⟩ := append_int wr w.heap.size _ _ HR.out hb.size (by omega) p
      have HRUN := hide (hrun 33)
      have HROW := hide hrow
      have HB2 := hide (HB.out.trans hb')
      rw [hpn] at HRUN ⊢
      have hN0 : ¬ (N : Int) = 0 := by omega
      have hN00 : ¬ N = 0 := by omega
      clear hR hb hpn hrun hrow ht hb'
      go_wp2_with (at_builtin; refine wpList_append_run rfl (.tmp 37) (.tmp 49) 33 rfl (.slice va i vc) (.slice (some ⟨wr.heap.size, 0, none⟩) 1 1) rfl rfl _ _ HRUN.out ?_)
      go_roundw
      case rel => exact ⟨i + 1, by go_num, by omega, by rw [hps.out]; exact HROW.out, HB2.out⟩
      case measure => simp [intOf]; omega
    · obtain rfl : i = k := by omega
      clear hR hb
      go_wp2_with fail
      go_ret2
      exact ⟨_, rfl, HR.out, HB.out⟩
end Go.Proofs.Ytppikddjdjmakaa
