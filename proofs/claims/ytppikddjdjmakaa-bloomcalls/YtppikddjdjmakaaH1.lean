/-
  The hash, of the code and of the document's answer.
-/
import Derived.Test.YtppikddjdjmakaaPu
namespace Go.Proofs.Ytppikddjdjmakaa
open Go.RowKit
set_option maxRecDepth 100000
set_option maxHeartbeats 1000000
theorem ofInt_q (x : BitVec 64) : BitVec.ofInt 64 (x.toNat : Int) = x := by
  have := x.isLt
  apply BitVec.eq_of_toNat_eq
  rw [BitVec.toNat_ofInt]
  omega
theorem wrap_q (x : BitVec 64) : IntKind.u64.wrap (x.toNat : Int) = x.toNat := by
  have := x.isLt
  simp [IntKind.wrap, IntKind.bits, IntKind.signed]
  omega
theorem xor_q (x y : BitVec 64) : bits .xor .u64 (x.toNat : Int) (y.toNat : Int) = ((x ^^^ y).toNat : Int) := by
  show IntKind.u64.wrap ((BitVec.ofInt 64 (x.toNat : Int) ^^^ BitVec.ofInt 64 (y.toNat : Int)).toNat : Int) = _
  rw [ofInt_q, ofInt_q, wrap_q]
theorem and_q (x y : BitVec 64) : bits .and .u64 (x.toNat : Int) (y.toNat : Int) = ((x &&& y).toNat : Int) := by
  show IntKind.u64.wrap ((BitVec.ofInt 64 (x.toNat : Int) &&& BitVec.ofInt 64 (y.toNat : Int)).toNat : Int) = _
  rw [ofInt_q, ofInt_q, wrap_q]
theorem or_q (x y : BitVec 64) : bits .or .u64 (x.toNat : Int) (y.toNat : Int) = ((x ||| y).toNat : Int) := by
  show IntKind.u64.wrap ((BitVec.ofInt 64 (x.toNat : Int) ||| BitVec.ofInt 64 (y.toNat : Int)).toNat : Int) = _
  rw [ofInt_q, ofInt_q, wrap_q]
theorem shr_q (x : BitVec 64) (n : Nat) : (x.toNat : Int) / ((2 ^ n : Nat) : Int) = ((x >>> n).toNat : Int) := by
  rw [BitVec.toNat_ushiftRight, Nat.shiftRight_eq_div_pow]
  rfl
theorem shr33_q (x : BitVec 64) : (x.toNat : Int) / (8589934592 : Int) = ((x >>> 33).toNat : Int) := shr_q x 33
theorem mul_q (x y : BitVec 64) : ((x.toNat : Int) * (y.toNat : Int)) % (18446744073709551616 : Int) = ((x * y).toNat : Int) := by
  rw [BitVec.toNat_mul]
  rfl
theorem ret_int {k : IntKind} {a b : Int} (h : a = b) : Ending.returned (.int k a) = .returned (.int k b) := by rw [h]
theorem wmul_q (x y : BitVec 64) : IntKind.u64.wrap ((x.toNat : Int) * (y.toNat : Int)) = ((x * y).toNat : Int) := by
  rw [BitVec.toNat_mul]
  simp [IntKind.wrap, IntKind.bits, IntKind.signed]
theorem mixA_q (x : BitVec 64) : IntKind.u64.wrap (bits .xor .u64 (x.toNat : Int) ((x.toNat : Int) / 8589934592) * 18397679294719823053) = ((mixA x).toNat : Int) := by
  rw [shr33_q, xor_q]
  exact wmul_q _ 18397679294719823053#64
theorem mixC_q (x : BitVec 64) : IntKind.u64.wrap (bits .xor .u64 (x.toNat : Int) ((x.toNat : Int) / 8589934592) * 14181476777654086739) = ((mixC x).toNat : Int) := by
  rw [shr33_q, xor_q]
  exact wmul_q _ 14181476777654086739#64
theorem mixD_q (x : BitVec 64) : bits .xor .u64 (x.toNat : Int) ((x.toNat : Int) / 8589934592) = ((x ^^^ (x >>> 33)).toNat : Int) := by
  rw [shr33_q, xor_q]
theorem mix_any (x : BitVec 64) (w : World) : Calls Try.prog 26 #[.int .u64 x.toNat] w fun e w' => e = .returned (.int .u64 (mixB x).toNat) ∧ w' = w := by
  go_enter Try.func26, Try.ntmps26
  go_wp2_with fail
  go_ret
  exact ⟨ret_int (by rw [mixA_q, mixC_q, mixD_q]; rfl), rfl⟩
theorem rmix_any (x : BitVec 64) (w : World) : Calls Try.prog 27 #[.int .u64 x.toNat] w fun e w' => e = .returned (.int .u64 (mixB x).toNat) ∧ w' = w := by
  go_enter Try.func27, Try.ntmps27
  go_wp2_with fail
  go_ret
  exact ⟨ret_int (by rw [mixA_q, mixC_q, mixD_q]; rfl), rfl⟩
theorem fnv_snoc (bs : List (BitVec 8)) (k : Nat) (h : k < bs.length) : fnv (bs.take (k + 1)) = fnvStep (fnv (bs.take k)) (bs.getD k 0) := by
  unfold fnv
  rw [List.take_succ_eq_append_getElem h, List.foldl_append]
  simp [List.getD, h]
theorem fnv_q (x : BitVec 64) (b : BitVec 8) : IntKind.u64.wrap (bits .xor .u64 (x.toNat : Int) (b.toNat : Int) * 1099511628211) = ((fnvStep x b).toNat : Int) := by
  have hb : (b.toNat : Int) = ((BitVec.ofNat 64 b.toNat).toNat : Int) := by
    have := b.isLt
    rw [BitVec.toNat_ofNat]
    omega
  rw [hb, xor_q]
  exact wmul_q _ 1099511628211#64
theorem hash_any (a : Option Addr) (n c : Nat) (bs : List (BitVec 8)) (w : World) (h : Bytes w (.slice a n c) bs) (hn : n ≤ 1000000000) :
    Calls Try.prog 17 #[.slice a n c] w fun e w' => e = .returned (.int .u64 (hashB bs).toNat) ∧ w' = w := by
  have hl := h.len
  have H := hide h
  have HL := hide hl
  clear h hl
  go_enter Try.func17, Try.ntmps17
  go_wp2_with fail
  go_loop [3, 8] (fun x i => ∃ k : Nat, i = .int .i64 (k : Nat) ∧ k ≤ n ∧ x = .int .u64 (fnv (bs.take k)).toNat) (fun _ i => n - (intOf i).toNat)
  case atStart => exact ⟨0, rfl, Nat.zero_le _, rfl⟩
  case round =>
    obtain ⟨k, rfl, hk, rfl⟩ := hrel
    by_cases hkn : k < n
    · obtain ⟨b, off, rfl⟩ := H.out.addr (by omega)
      have hkx : k < bs.length := by have := HL.out; omega
      have h1 := H.out.at k hkx
      have HF := hide (fnv_snoc bs k hkx)
      have HQ := hide (fnv_q (fnv (bs.take k)) (bs.getD k 0))
      have hb := (bs.getD k 0).isLt
      generalize (bs.getD k 0) = bk at *
      have i1 : (k : Int) < (n : Int) := by omega
      have i0 : (0 : Int) ≤ (k : Int) := by omega
      go_wp2_with fail
      go_round
      case rel => exact ⟨k + 1, by go_num, by omega, by rw [HF.out, ← HQ.out]⟩
      case measure => simp [intOf]; omega
    · obtain rfl : k = n := by omega
      have HT := hide (show bs.take k = bs from List.take_of_length_le (by have := HL.out; omega))
      go_wp2_with (go_at_call 26; refine (mix_any _ _).mono ?_; rintro e w1 ⟨rfl, rfl⟩)
      go_ret
      exact ⟨ret_int (by rw [HT.out]; rfl), rfl⟩
theorem rhash_any (a : Option Addr) (n c : Nat) (bs : List (BitVec 8)) (w : World) (h : Bytes w (.slice a n c) bs) (hn : n ≤ 1000000000) :
    Calls Try.prog 19 #[.slice a n c] w fun e w' => e = .returned (.int .u64 (hashB bs).toNat) ∧ w' = w := by
  have hl := h.len
  have H := hide h
  have HL := hide hl
  clear h hl
  go_enter Try.func19, Try.ntmps19
  go_wp2_with fail
  go_loop [3, 4] (fun x i => ∃ k : Nat, i = .int .i64 (k : Nat) ∧ k ≤ n ∧ x = .int .u64 (fnv (bs.take k)).toNat) (fun _ i => n - (intOf i).toNat)
  case atStart => exact ⟨0, rfl, Nat.zero_le _, rfl⟩
  case round =>
    obtain ⟨k, rfl, hk, rfl⟩ := hrel
    by_cases hkn : k < n
    · obtain ⟨b, off, rfl⟩ := H.out.addr (by omega)
      have hkx : k < bs.length := by have := HL.out; omega
      have h1 := H.out.at k hkx
      have HF := hide (fnv_snoc bs k hkx)
      have HQ := hide (fnv_q (fnv (bs.take k)) (bs.getD k 0))
      have hb := (bs.getD k 0).isLt
      generalize (bs.getD k 0) = bk at *
      have i1 : (k : Int) < (n : Int) := by omega
      have i0 : (0 : Int) ≤ (k : Int) := by omega
      go_wp2_with fail
      go_round
      case rel => exact ⟨k + 1, by go_num, by omega, by rw [HF.out, ← HQ.out]⟩
      case measure => simp [intOf]; omega
    · obtain rfl : k = n := by omega
      have HT := hide (show bs.take k = bs from List.take_of_length_le (by have := HL.out; omega))
      go_wp2_with (go_at_call 27; refine (rmix_any _ _).mono ?_; rintro e w1 ⟨rfl, rfl⟩)
      go_ret
      exact ⟨ret_int (by rw [HT.out]; rfl), rfl⟩
end Go.Proofs.Ytppikddjdjmakaa
