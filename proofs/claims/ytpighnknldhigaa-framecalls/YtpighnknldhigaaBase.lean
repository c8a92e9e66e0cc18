/-
  The leaves of crc's calls: what one step, a turning and the search of the lowest bit answer, said of 32-bit words.
-/
import Derived.Test.YtpighnknldhigaaRows
import Derived.Test.YtpighnknldhigaaMath
import Derived.WalkKit
import Derived.WalkSpells
import Derived.WalkLawsBesides
namespace Go.Proofs.Ytpighnknldhigaa
open Go.RowKit

theorem ofInt_w (x : BitVec 32) : BitVec.ofInt 32 (x.toNat : Int) = x := by
  apply BitVec.eq_of_toNat_eq
  rw [ofInt_u32 x.toNat x.isLt]
theorem ofInt_b (x : BitVec 8) : BitVec.ofInt 8 (x.toNat : Int) = x := by
  have := x.isLt
  apply BitVec.eq_of_toNat_eq
  rw [BitVec.toNat_ofInt]
  omega
theorem wrap_w (x : BitVec 32) : IntKind.u32.wrap (x.toNat : Int) = x.toNat := by
  have := x.isLt
  simp [IntKind.wrap, IntKind.bits, IntKind.signed]
  omega
theorem wrap_b (x : BitVec 8) : IntKind.u8.wrap (x.toNat : Int) = x.toNat := by
  have := x.isLt
  simp [IntKind.wrap, IntKind.bits, IntKind.signed]
  omega

theorem xor_w (x y : BitVec 32) : bits .xor .u32 (x.toNat : Int) (y.toNat : Int) = ((x ^^^ y).toNat : Int) := by
  show IntKind.u32.wrap ((BitVec.ofInt 32 (x.toNat : Int) ^^^ BitVec.ofInt 32 (y.toNat : Int)).toNat : Int) = _
  rw [ofInt_w, ofInt_w, wrap_w]
theorem and_w (x y : BitVec 32) : bits .and .u32 (x.toNat : Int) (y.toNat : Int) = ((x &&& y).toNat : Int) := by
  show IntKind.u32.wrap ((BitVec.ofInt 32 (x.toNat : Int) &&& BitVec.ofInt 32 (y.toNat : Int)).toNat : Int) = _
  rw [ofInt_w, ofInt_w, wrap_w]
theorem or_w (x y : BitVec 32) : bits .or .u32 (x.toNat : Int) (y.toNat : Int) = ((x ||| y).toNat : Int) := by
  show IntKind.u32.wrap ((BitVec.ofInt 32 (x.toNat : Int) ||| BitVec.ofInt 32 (y.toNat : Int)).toNat : Int) = _
  rw [ofInt_w, ofInt_w, wrap_w]
theorem xor_b (x y : BitVec 8) : bits .xor .u8 (x.toNat : Int) (y.toNat : Int) = ((x ^^^ y).toNat : Int) := by
  show IntKind.u8.wrap ((BitVec.ofInt 8 (x.toNat : Int) ^^^ BitVec.ofInt 8 (y.toNat : Int)).toNat : Int) = _
  rw [ofInt_b, ofInt_b, wrap_b]

theorem shr_w (x : BitVec 32) (n : Nat) : (x.toNat : Int) / ((2 ^ n : Nat) : Int) = ((x >>> n).toNat : Int) := by
  rw [BitVec.toNat_ushiftRight, Nat.shiftRight_eq_div_pow]
  rfl
theorem shr1_w (x : BitVec 32) : (x.toNat : Int) / (2 : Int) = ((x >>> 1).toNat : Int) := shr_w x 1
theorem shr8_w (x : BitVec 32) : (x.toNat : Int) / (256 : Int) = ((x >>> 8).toNat : Int) := shr_w x 8
theorem shr15_w (x : BitVec 32) : (x.toNat : Int) / (32768 : Int) = ((x >>> 15).toNat : Int) := shr_w x 15
theorem shr17_w (x : BitVec 32) : (x.toNat : Int) / (131072 : Int) = ((x >>> 17).toNat : Int) := shr_w x 17
theorem shl_w (x : BitVec 32) (n : Nat) : (x.toNat : Int) * ((2 ^ n : Nat) : Int) % (4294967296 : Int) = ((x <<< n).toNat : Int) := by
  rw [BitVec.toNat_shiftLeft, Nat.shiftLeft_eq]
  rfl
theorem shl15_w (x : BitVec 32) : (x.toNat : Int) * (32768 : Int) % (4294967296 : Int) = ((x <<< 15).toNat : Int) := shl_w x 15
theorem shl17_w (x : BitVec 32) : (x.toNat : Int) * (131072 : Int) % (4294967296 : Int) = ((x <<< 17).toNat : Int) := shl_w x 17
theorem add_w (x y : BitVec 32) : ((x.toNat : Int) + (y.toNat : Int)) % (4294967296 : Int) = ((x + y).toNat : Int) := by
  rw [BitVec.toNat_add]
  rfl
theorem mul_w (x y : BitVec 32) : ((x.toNat : Int) * (y.toNat : Int)) % (4294967296 : Int) = ((x * y).toNat : Int) := by
  rw [BitVec.toNat_mul]
  rfl
theorem sub_w (x y : BitVec 32) : ((x.toNat : Int) - (y.toNat : Int)) % (4294967296 : Int) = ((x - y).toNat : Int) := by
  have := x.isLt
  have := y.isLt
  rw [BitVec.toNat_sub]
  omega
theorem neg_w (x : BitVec 32) : -(x.toNat : Int) % (4294967296 : Int) = ((-x).toNat : Int) := by
  have := x.isLt
  rw [BitVec.toNat_neg]
  omega
theorem ret_w {x y : BitVec 32} (h : x = y) : Ending.returned (.int .u32 (x.toNat : Int)) = .returned (.int .u32 (y.toNat : Int)) := by rw [h]
theorem ret_int {k : IntKind} {a b : Int} (h : a = b) : Ending.returned (.int k a) = .returned (.int k b) := by rw [h]

theorem bit0_w (x : BitVec 32) : x[0] = (x.toNat % 2 == 1) := by
  rw [BitVec.getElem_eq_testBit_toNat, Nat.testBit_zero]
  rfl
theorem and1_w (x : BitVec 32) : bits .and .u32 (x.toNat : Int) 1 = ((x.toNat % 2 : Nat) : Int) := by
  have e := and_w x 1#32
  rw [show ((1#32).toNat : Int) = 1 from rfl] at e
  rw [e, BitVec.toNat_and]
  show ((x.toNat &&& 1 : Nat) : Int) = _
  rw [Nat.and_one_is_mod]

set_option maxHeartbeats 400000 in
theorem step_any (x : BitVec 32) (w : World) :
    Calls Try.prog 42 #[.int .u32 x.toNat] w fun e w' => e = .returned (.int .u32 (Crc32.step x).toNat) ∧ w' = w := by
  have h0 := bit0_w x
  have h1 := and1_w x
  have hs := shr1_w x
  have hx := xor_w (x >>> 1) 2197175160#32
  rw [show ((2197175160#32).toNat : Int) = 2197175160 from rfl] at hx
  have H0 : Hid (x[0] = (x.toNat % 2 == 1)) := h0
  have Hs : Hid ((x.toNat : Int) / (2 : Int) = ((x >>> 1).toNat : Int)) := hs
  have Hx : Hid (bits .xor .u32 ((x >>> 1).toNat : Int) 2197175160 = ((x >>> 1 ^^^ 2197175160#32).toNat : Int)) := hx
  have H1 : Hid (bits .and .u32 (x.toNat : Int) 1 = ((x.toNat % 2 : Nat) : Int)) := h1
  clear h0 h1 hs hx
  by_cases hb : x.toNat % 2 = 1
  · have ht : (bits .and .u32 (x.toNat : Int) 1 == 0) = false := by rw [H1.out, hb]; rfl
    have hst : Hid (Crc32.step x = x >>> 1 ^^^ 2197175160#32) := by unfold Hid Crc32.step; rw [H0.out, hb]; rfl
    clear hb
    go_enter Try.func42, Try.ntmps42
    go_wp2
    go_ret
    exact ⟨ret_int (by rw [hst.out, ← Hx.out, ← Hs.out]), rfl⟩
  · have ht : (bits .and .u32 (x.toNat : Int) 1 == 0) = true := by rw [H1.out, show x.toNat % 2 = 0 by omega]; rfl
    have hst : Hid (Crc32.step x = x >>> 1) := by unfold Hid Crc32.step; rw [H0.out, show x.toNat % 2 = 0 by omega]; rfl
    clear hb
    go_enter Try.func42, Try.ntmps42
    go_wp2
    go_ret
    exact ⟨ret_int (by rw [hst.out, ← Hs.out]), rfl⟩

set_option maxHeartbeats 400000 in
theorem rstep_any (x : BitVec 32) (w : World) :
    Calls Try.prog 41 #[.int .u32 x.toNat] w fun e w' => e = .returned (.int .u32 (Crc32.step x).toNat) ∧ w' = w := by
  have H0 : Hid (x[0] = (x.toNat % 2 == 1)) := bit0_w x
  have Hs : Hid ((x.toNat : Int) / (2 : Int) = ((x >>> 1).toNat : Int)) := shr1_w x
  have Hx : Hid (bits .xor .u32 ((x >>> 1).toNat : Int) 2197175160 = ((x >>> 1 ^^^ 2197175160#32).toNat : Int)) := xor_w (x >>> 1) 2197175160#32
  by_cases hb : x.toNat % 2 = 1
  · have ht : ((x.toNat : Int) % (2 : Int) == 1) = true := by rw [beq_iff_eq]; omega
    have hst : Hid (Crc32.step x = x >>> 1 ^^^ 2197175160#32) := by unfold Hid Crc32.step; rw [H0.out, hb]; rfl
    clear hb
    go_enter Try.func41, Try.ntmps41
    go_wp2
    go_ret
    exact ⟨ret_int (by rw [hst.out, ← Hx.out, ← Hs.out]), rfl⟩
  · have ht : ((x.toNat : Int) % (2 : Int) == 1) = false := by rw [beq_eq_false_iff_ne]; omega
    have hst : Hid (Crc32.step x = x >>> 1) := by unfold Hid Crc32.step; rw [H0.out, show x.toNat % 2 = 0 by omega]; rfl
    clear hb
    go_enter Try.func41, Try.ntmps41
    go_wp2
    go_ret
    exact ⟨ret_int (by rw [hst.out, ← Hs.out]), rfl⟩

theorem and15 : bits .and .u64 15 31 = 15 := by decide +kernel
theorem and17 : bits .and .u64 (IntKind.u64.wrap (-15)) 31 = 17 := by decide +kernel

set_option maxHeartbeats 400000 in
theorem rot17_any (x : BitVec 32) (w : World) :
    Calls Try.prog 39 #[.int .u32 x.toNat, .int .i64 (-15)] w fun e w' => e = .returned (.int .u32 (x <<< 17 ||| x >>> 15).toNat) ∧ w' = w := by
  have h := and17
  have H : Hid (bits .or .u32 ((x.toNat : Int) * (131072 : Int) % (4294967296 : Int)) ((x.toNat : Int) / (32768 : Int)) = ((x <<< 17 ||| x >>> 15).toNat : Int)) := by unfold Hid; rw [shl17_w, shr15_w, or_w]
  go_enter Try.func39, Try.ntmps39
  go_wp2
  go_ret
  exact ⟨ret_int H.out, rfl⟩

def mask (x : BitVec 32) : BitVec 32 := (x >>> 15 ||| x <<< 17) + 2726488792#32
def unmask (x : BitVec 32) : BitVec 32 := (x - 2726488792#32) <<< 15 ||| (x - 2726488792#32) >>> 17
theorem unmask_mask (x : BitVec 32) : unmask (mask x) = x := by
  unfold unmask mask
  rw [BitVec.add_sub_cancel]
  exact Crc32.unmask_mask x


set_option maxHeartbeats 400000 in
theorem mask_any (x : BitVec 32) (w : World) :
    Calls Try.prog 33 #[.int .u32 x.toNat] w fun e w' => e = .returned (.int .u32 (mask x).toNat) ∧ w' = w := by
  have H : Hid (((x <<< 17 ||| x >>> 15).toNat + (2726488792 : Int)) % (4294967296 : Int) = ((mask x).toNat : Int)) := by
    unfold Hid mask
    rw [BitVec.or_comm]
    exact add_w _ 2726488792#32
  generalize hm : mask x = m at *
  clear hm
  go_enter Try.func33, Try.ntmps33
  go_wp2_with fail
  refine (rot17_any _ _).mono ?_
  rintro e w' ⟨rfl, rfl⟩
  generalize x <<< 17 ||| x >>> 15 = r at *
  go_wp2
  go_ret
  exact ⟨ret_int H.out, rfl⟩
set_option maxHeartbeats 400000 in
theorem rmask_any (x : BitVec 32) (w : World) :
    Calls Try.prog 30 #[.int .u32 x.toNat] w fun e w' => e = .returned (.int .u32 (mask x).toNat) ∧ w' = w := by
  have H : Hid ((bits .or .u32 ((x.toNat : Int) / (32768 : Int)) ((x.toNat : Int) * (131072 : Int) % (4294967296 : Int)) + (2726488792 : Int)) % (4294967296 : Int) = ((mask x).toNat : Int)) := by
    unfold Hid mask
    rw [shl17_w, shr15_w, or_w]
    exact add_w _ 2726488792#32
  go_enter Try.func30, Try.ntmps30
  go_wp2
  go_ret
  exact ⟨ret_int H.out, rfl⟩
/-- What Pick picks. -/
def pick (n m : Int) : Int := if n.tmod m < 0 then n.tmod m + m else n.tmod m
theorem pick_range (n m : Int) (h : 0 < m) : 0 ≤ pick n m ∧ pick n m < m := by
  have h1 := Int.lt_tmod_of_pos n h
  have h2 := Int.tmod_lt_of_pos n h
  unfold pick
  split <;> omega
set_option maxHeartbeats 400000 in
theorem pick_any (n m : Int) (w : World) (hm : 0 < m) (hm2 : m ≤ 9223372036854775807) (_hn : -9223372036854775808 ≤ n) (_hn2 : n ≤ 9223372036854775807) :
    Calls Try.prog 21 #[.int .i64 n, .int .i64 m] w fun e w' => e = .returned (.int .i64 (pick n m)) ∧ w' = w := by
  have h1 := Int.lt_tmod_of_pos n hm
  have h2 := Int.tmod_lt_of_pos n hm
  have hp : Hid (pick n m = if n.tmod m < 0 then n.tmod m + m else n.tmod m) := rfl
  by_cases hlt : n.tmod m < 0
  · have hq : Hid (pick n m = n.tmod m + m) := by unfold Hid; rw [hp.out, if_pos hlt]
    go_enter Try.func21, Try.ntmps21
    go_wp2
    go_ret
    exact ⟨ret_int hq.out.symm, rfl⟩
  · have hq : Hid (pick n m = n.tmod m) := by unfold Hid; rw [hp.out, if_neg hlt]
    go_enter Try.func21, Try.ntmps21
    go_wp2
    go_ret
    exact ⟨ret_int hq.out.symm, rfl⟩
end Go.Proofs.Ytpighnknldhigaa
