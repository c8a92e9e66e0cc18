/-
  How bytes, and entries, are compared.
-/
import Derived.Test.YtkmcdjbadngfgaaV1
import Derived.Lib.BytesEntry
import Derived.Laws.BytesArg
import Derived.Laws.Externs
namespace Go.Proofs.Ytkmcdjbadngfgaa
open Go.RowKit
set_option maxRecDepth 100000
set_option maxHeartbeats 4000000
def nums (bs : List (BitVec 8)) : List Int := bs.map fun b => (b.toNat : Int)
/-- Bytes as the library's words have them. -/
def u8s (bs : List (BitVec 8)) : List UInt8 := Lib.bytesOf (nums bs)
theorem bytesOf_any {P : Program} {w : World} {a : Option Addr} {n c : Nat} {bs : List (BitVec 8)} (h : Bytes w (.slice a n c) bs) : (Extern.Bytes.bytesOf (.slice a n c)).run P w = .ok ⟨(u8s bs).toArray⟩ w := by
  have hl := h.len
  cases a with
  | none =>
    obtain rfl : bs = [] := by
      rcases Nat.eq_zero_or_pos n with h0 | h0
      · exact List.eq_nil_of_length_eq_zero (by omega)
      · obtain ⟨_, _, e⟩ := h.addr h0; cases e
    rfl
  | some ad =>
    rcases Nat.eq_zero_or_pos n with h0 | h0
    · subst h0
      obtain rfl : bs = [] := List.eq_nil_of_length_eq_zero hl.symm
      rfl
    · obtain ⟨b, off, e⟩ := h.addr h0
      cases e
      have := Lib.run_loadBytesX (P := P) w (nums bs) ⟨b, off, none⟩ .empty (fun j x hj => by
        have hj' : j < bs.length := by simpa [nums] using (List.getElem?_eq_some_iff.1 hj).1
        rw [Go.WideShapes.add_plain, h.at j hj']
        have : (bs[j].toNat : Int) = x := by simpa [nums, hj'] using hj
        rw [← this]
        simp [List.getD, hj'])
      rw [show (nums bs).length = n by simp [nums, hl]] at this
      rw [show Extern.Bytes.bytesOf (.slice (some ⟨b, off, none⟩) n c) = Extern.Bytes.loadBytes ⟨b, off, none⟩ n .empty from rfl, this]
      congr 1
      apply ByteArray.ext
      show (#[] : Array UInt8) ++ (u8s bs).toArray = (u8s bs).toArray
      simp
def cmpB (a b : List (BitVec 8)) : Int := Lib.compareBytes (u8s a) (u8s b)
theorem compareB_any (a a' : Option Addr) (n n' c c' : Nat) (x y : List (BitVec 8)) (w : World) (h : Bytes w (.slice a n c) x) (h' : Bytes w (.slice a' n' c') y) :
    Calls Try.prog 65 #[.slice a n c, .slice a' n' c'] w fun e w' => e = .returned (.int .i64 (cmpB x y)) ∧ w' = w := by
  have hcf : (callFunc 80 #[.slice a n c, .slice a' n' c']).run Try.prog w = .ok (.value (.int .i64 (cmpB x y))) w := by
    rw [run_callFunc_extern Try.func80 (by kernel_rfl) (by kernel_rfl) (by kernel_rfl) (e := Extern.BytealgCompare.compare) (by kernel_rfl)]
    have : (Extern.BytealgCompare.compare #[.slice a n c, .slice a' n' c']).run Try.prog w = .ok (.int .i64 (cmpB x y)) w := by
      change Sem.run Try.prog (do pure (goInt (Extern.BytealgCompare.cmp (← Extern.Bytes.bytesOf (.slice a n c)) (← Extern.Bytes.bytesOf (.slice a' n' c'))))) w = _
      simp only [Sem.run_bind, bytesOf_any h, bytesOf_any h', Sem.run_pure, Result.andThen]
      rw [Lib.cmp_eq]
      rfl
    rw [this]
    rfl
  clear h h'
  generalize cmpB x y = z at *
  go_enter Try.func65, Try.ntmps65
  go_wp2_with fail
  go_ret
  exact ⟨rfl, rfl⟩
theorem conv_any {w : World} {a : Option Addr} {n c : Nat} {bs : List (BitVec 8)} (h : Bytes w (.slice a n c) bs) : (convert 27 9 (.slice a n c)).run Try.prog w = .ok (.string ⟨(u8s bs).toArray⟩) w := by
  have hl := h.len
  rcases Nat.eq_zero_or_pos n with h0 | h0
  · subst h0
    obtain rfl : bs = [] := List.eq_nil_of_length_eq_zero hl.symm
    cases a with
    | none => exact run_convert_bytes_nil w 27 5 Try.underlying27 Try.underlying5 0 c 9 Try.underlying9
    | some ad =>
      rw [run_convert_bytes_string w 27 9 5 _ 0 c Try.underlying27 Try.underlying5 Try.underlying9]
      simp [Conv.bytesToString, loadCells]
      rfl
  · obtain ⟨b, off, rfl⟩ := h.addr h0
    have := run_convert_bytes_arg (P := Try.prog) w 27 5 Try.underlying27 Try.underlying5 b off n c (nums bs) (by simp [nums, hl]) (fun i hi => by
      have hi' : i < bs.length := by omega
      rw [h.at i hi']
      simp [nums, List.getD, hi']) 9 Try.underlying9
    rw [this]
    rfl
theorem cmp_swap : ∀ a b : List UInt8, Lib.compareBytes b a = - Lib.compareBytes a b
  | [], [] => rfl
  | [], _ :: _ => rfl
  | _ :: _, [] => rfl
  | a :: l1, b :: l2 => by
    have ih := cmp_swap l1 l2
    simp only [Lib.compareBytes]
    by_cases h1 : a < b
    · have h2 : ¬ b < a := UInt8.lt_asymm h1
      simp [h1, h2]
    · by_cases h2 : b < a
      · simp [h1, h2]
      · simp [h1, h2, ih]
theorem cmp_zero : ∀ a b : List UInt8, Lib.compareBytes a b = 0 ↔ a = b
  | [], [] => by simp [Lib.compareBytes]
  | [], _ :: _ => by simp [Lib.compareBytes]
  | _ :: _, [] => by simp [Lib.compareBytes]
  | a :: l1, b :: l2 => by
    have ih := cmp_zero l1 l2
    simp only [Lib.compareBytes]
    by_cases h1 : a < b
    · have : a ≠ b := fun e => UInt8.lt_irrefl b (e ▸ h1)
      simp [h1, this]
    · by_cases h2 : b < a
      · have : a ≠ b := fun e => UInt8.lt_irrefl b (e ▸ h2)
        simp [h1, h2, this]
      · have : a = b := UInt8.le_antisymm (UInt8.not_lt.1 h2) (UInt8.not_lt.1 h1)
        simp [ih, this]
theorem cmp_vals : ∀ a b : List UInt8, Lib.compareBytes a b = -1 ∨ Lib.compareBytes a b = 0 ∨ Lib.compareBytes a b = 1
  | [], [] => by simp [Lib.compareBytes]
  | [], _ :: _ => by simp [Lib.compareBytes]
  | _ :: _, [] => by simp [Lib.compareBytes]
  | a :: l1, b :: l2 => by
    have ih := cmp_vals l1 l2
    simp only [Lib.compareBytes]
    repeat' split
    all_goals simp_all
theorem cmp_lt : ∀ a b c : List UInt8, Lib.compareBytes a b = -1 → Lib.compareBytes b c = -1 → Lib.compareBytes a c = -1
  | [], [], c => by simp [Lib.compareBytes]
  | [], _ :: _, [] => by simp [Lib.compareBytes]
  | [], _ :: _, _ :: _ => by simp [Lib.compareBytes]
  | _ :: _, [], _ => by simp [Lib.compareBytes]
  | _ :: _, _ :: _, [] => by simp [Lib.compareBytes]
  | a :: l1, b :: l2, c :: l3 => by
    have ih := cmp_lt l1 l2 l3
    simp only [Lib.compareBytes]
    intro h1 h2
    by_cases x1 : a < b
    · by_cases x2 : b < c
      · simp [UInt8.lt_trans x1 x2]
      · by_cases x3 : c < b
        · simp [x2, x3] at h2
        · have : b = c := UInt8.le_antisymm (UInt8.not_lt.1 x3) (UInt8.not_lt.1 x2)
          subst this
          simp [x1]
    · by_cases x1' : b < a
      · simp [x1, x1'] at h1
      · have : a = b := UInt8.le_antisymm (UInt8.not_lt.1 x1') (UInt8.not_lt.1 x1)
        subst this
        by_cases x2 : a < c
        · simp [x2]
        · by_cases x3 : c < a
          · simp [x2, x3] at h2
          · simp only [x1, x2, x3, if_false] at h1 h2 ⊢
            exact ih h1 h2
theorem less_cmp : ∀ a b : List UInt8, Op.bytesLess a b = true ↔ Lib.compareBytes a b = -1
  | [], [] => by simp [Lib.compareBytes, Op.bytesLess]
  | [], _ :: _ => by simp [Lib.compareBytes, Op.bytesLess]
  | _ :: _, [] => by simp [Lib.compareBytes, Op.bytesLess]
  | a :: l1, b :: l2 => by
    have ih := less_cmp l1 l2
    simp only [Lib.compareBytes, Op.bytesLess]
    by_cases h1 : a < b
    · simp [h1]
    · by_cases h2 : b < a
      · have : a ≠ b := fun e => UInt8.lt_irrefl b (e ▸ h2)
        simp [h1, h2, this]
      · have : a = b := UInt8.le_antisymm (UInt8.not_lt.1 h2) (UInt8.not_lt.1 h1)
        simp [ih, this]
theorem u8s_inj {a b : List (BitVec 8)} (h : u8s a = u8s b) : a = b := by
  induction a generalizing b with
  | nil => cases b with
    | nil => rfl
    | cons y r => simp [u8s, nums, Lib.bytesOf] at h
  | cons x l ih => cases b with
    | nil => simp [u8s, nums, Lib.bytesOf] at h
    | cons y r =>
      simp only [u8s, nums, Lib.bytesOf, List.map_cons, List.cons.injEq, Int.toNat_natCast] at h
      have hx : x = y := by
        have := congrArg UInt8.toNat h.1
        have h1 := x.isLt
        have h2 := y.isLt
        simp only [UInt8.toNat_ofNat'] at this
        exact BitVec.eq_of_toNat_eq (by omega)
      rw [hx, ih h.2]
/-- An entry's key and number. -/
abbrev En := List (BitVec 8) × Nat
def cmpE (x y : En) : Int := if cmpB x.1 y.1 ≠ 0 then cmpB x.1 y.1 else if y.2 < x.2 then -1 else if x.2 < y.2 then 1 else 0
theorem cmpB_swap (a b : List (BitVec 8)) : cmpB b a = - cmpB a b := cmp_swap _ _
theorem cmpB_zero (a b : List (BitVec 8)) : cmpB a b = 0 ↔ a = b := (cmp_zero _ _).trans ⟨u8s_inj, fun e => by rw [e]⟩
theorem cmpB_vals (a b : List (BitVec 8)) : cmpB a b = -1 ∨ cmpB a b = 0 ∨ cmpB a b = 1 := cmp_vals _ _
theorem cmpB_lt {a b c : List (BitVec 8)} (h : cmpB a b = -1) (k : cmpB b c = -1) : cmpB a c = -1 := cmp_lt _ _ _ h k
theorem cmpE_swap (x y : En) : cmpE y x = - cmpE x y := by
  unfold cmpE
  rw [cmpB_swap x.1 y.1]
  have := cmpB_vals x.1 y.1
  generalize cmpB x.1 y.1 = z at *
  repeat' split
  all_goals omega
theorem cmpE_zero (x y : En) : cmpE x y = 0 ↔ x.1 = y.1 ∧ x.2 = y.2 := by
  unfold cmpE
  rw [← cmpB_zero]
  generalize cmpB x.1 y.1 = z at *
  repeat' split
  all_goals omega
theorem cmpE_trans (x y z : En) (h1 : cmpE x y ≤ 0) (h2 : cmpE y z ≤ 0) : cmpE x z ≤ 0 := by
  unfold cmpE at *
  have v1 := cmpB_vals x.1 y.1
  have v2 := cmpB_vals y.1 z.1
  have v3 := cmpB_vals x.1 z.1
  rcases v1 with e1 | e1 | e1
  · rcases v2 with e2 | e2 | e2
    · rw [cmpB_lt e1 e2, if_pos (by decide)]; decide
    · rw [(cmpB_zero _ _).1 e2] at e1
      rw [e1, if_pos (by decide)]; decide
    · rw [e2, if_pos (by decide)] at h2; exact absurd h2 (by decide)
  · have ex := (cmpB_zero _ _).1 e1
    rw [ex] at h1 ⊢
    rcases v2 with e2 | e2 | e2
    · rw [e2, if_pos (by decide)]; decide
    · have ez := (cmpB_zero _ _).1 e2
      rw [ez] at h1 h2 ⊢
      have e0 : cmpB z.1 z.1 = 0 := (cmpB_zero _ _).2 rfl
      rw [e0] at h1 h2 ⊢
      simp only [ne_eq, not_true, if_false] at h1 h2 ⊢
      repeat' split at h1
      all_goals repeat' split at h2
      all_goals repeat' split
      all_goals omega
    · rw [e2, if_pos (by decide)] at h2; exact absurd h2 (by decide)
  · rw [e1, if_pos (by decide)] at h1; exact absurd h1 (by decide)

def orN (x y : Int) : Int := if x ≠ 0 then x else y
def cmpN (x y : Nat) : Int := if x < y then -1 else if y < x then 1 else 0
theorem cmp64_any (x y : Nat) (w : World) : Calls Try.prog 62 #[.int .u64 x, .int .u64 y] w fun e w' => e = .returned (.int .i64 (cmpN x y)) ∧ w' = w := by
  go_enter Try.func62, Try.ntmps62
  go_wp2
  all_goals go_ret
  all_goals refine ⟨congrArg Ending.returned (congrArg (Value.int IntKind.i64) ?_), rfl⟩
  · rw [cmpN, if_pos (by omega)]
  · rw [cmpN, if_neg (by omega), if_pos (by omega)]
  · rw [cmpN, if_neg (by omega), if_neg (by omega)]
theorem alloc_keep {w : World} {a : Addr} {v : Value} (h : w.cell? a = some v) (o : Obj) : (w.alloc o).cell? a = some v :=
  (((Below.refl w.heap.size w).alloc (Nat.le_refl _) o).cell (block_lt_of_cell h)).trans h
end Go.Proofs.Ytkmcdjbadngfgaa
