/-
  How bytes, and entries, are compared.
-/
import Derived.Test.YtjnpendihdlgnaaV1
import Derived.Lib.BytesEntry
import Derived.Laws.BytesArg
import Derived.Laws.Externs
namespace Go.Proofs.Ytjnpendihdlgnaa
open Go.RowKit
set_option maxRecDepth 100000
set_option maxHeartbeats 4000000
def nums (bs : List (BitVec 8)) : List Int := bs.map fun b => (b.toNat : Int)
/-- Bytes as the library's words have them. -/
def u8s (bs : List (BitVec 8)) : List UInt8 := Lib.bytesOf (nums bs)
theorem bytesOf_any {P : Program} {w : World} {a : Option Addr} {n c : Nat} {bs : List (BitVec 8)} (h : Bytes w (.slice a n c) bs) : (Extern.Bytes.bytesOf (.slice a n c)).run P w = .ok ⟨(u8s bs).toArray⟩ w := by
  have hl := h.len
  cases a with
  | none =>
    obtain rfl : bs = [] := by
      rcases Nat.eq_zero_or_pos n with h0 | h0
      · exact List.eq_nil_of_length_eq_zero (by omega)
      · obtain ⟨_, _, e⟩ := h.addr h0; cases e
    rfl
  | some ad =>
    rcases Nat.eq_zero_or_pos n with h0 | h0
    · subst h0
      obtain rfl : bs = [] := List.eq_nil_of_length_eq_zero hl.symm
      rfl
    · obtain ⟨b, off, e⟩ := h.addr h0
      cases e
      have := Lib.run_loadBytesX (P := P) w (nums bs) ⟨b, off, none⟩ .empty (fun j x hj => by
        have hj' : j < bs.length := by simpa [nums] using (List.getElem?_eq_some_iff.1 hj).1
        rw [Go.WideShapes.add_plain, h.at j hj']
        have : (bs[j].toNat : Int) = x := by simpa [nums, hj'] using hj
        rw [← this]
        simp [List.getD, hj'])
      rw [show (nums bs).length = n by simp [nums, hl]] at this
      rw [show Extern.Bytes.bytesOf (.slice (some ⟨b, off, none⟩) n c) = Extern.Bytes.loadBytes ⟨b, off, none⟩ n .empty from rfl, this]
      congr 1
      apply ByteArray.ext
      show (#[] : Array UInt8) ++ (u8s bs).toArray = (u8s bs).toArray
      simp
def cmpB (a b : List (BitVec 8)) : Int := Lib.compareBytes (u8s a) (u8s b)
theorem compareB_any (a a' : Option Addr) (n n' c c' : Nat) (x y : List (BitVec 8)) (w : World) (h : Bytes w (.slice a n c) x) (h' : Bytes w (.slice a' n' c') y) :
    Calls Try.prog 51 #[.slice a n c, .slice a' n' c'] w fun e w' => e = .returned (.int .i64 (cmpB x y)) ∧ w' = w := by
  have hcf : (callFunc 61 #[.slice a n c, .slice a' n' c']).run Try.prog w = .ok (.value (.int .i64 (cmpB x y))) w := by
    rw [run_callFunc_extern Try.func61 (by kernel_rfl) (by kernel_rfl) (by kernel_rfl) (e := Extern.BytealgCompare.compare) (by kernel_rfl)]
    have : (Extern.BytealgCompare.compare #[.slice a n c, .slice a' n' c']).run Try.prog w = .ok (.int .i64 (cmpB x y)) w := by
      change Sem.run Try.prog (do pure (goInt (Extern.BytealgCompare.cmp (← Extern.Bytes.bytesOf (.slice a n c)) (← Extern.Bytes.bytesOf (.slice a' n' c'))))) w = _
      simp only [Sem.run_bind, bytesOf_any h, bytesOf_any h', Sem.run_pure, Result.andThen]
      rw [Lib.cmp_eq]
      rfl
    rw [this]
    rfl
  clear h h'
  generalize cmpB x y = z at *
  go_enter Try.func51, Try.ntmps51
  go_wp2_with fail
  go_ret
  exact ⟨rfl, rfl⟩
theorem conv_any {w : World} {a : Option Addr} {n c : Nat} {bs : List (BitVec 8)} (h : Bytes w (.slice a n c) bs) : (convert 22 9 (.slice a n c)).run Try.prog w = .ok (.string ⟨(u8s bs).toArray⟩) w := by
  have hl := h.len
  rcases Nat.eq_zero_or_pos n with h0 | h0
  · subst h0
    obtain rfl : bs = [] := List.eq_nil_of_length_eq_zero hl.symm
    cases a with
    | none => exact run_convert_bytes_nil w 22 5 Try.underlying22 Try.underlying5 0 c 9 Try.underlying9
    | some ad =>
      rw [run_convert_bytes_string w 22 9 5 _ 0 c Try.underlying22 Try.underlying5 Try.underlying9]
      simp [Conv.bytesToString, loadCells]
      rfl
  · obtain ⟨b, off, rfl⟩ := h.addr h0
    have := run_convert_bytes_arg (P := Try.prog) w 22 5 Try.underlying22 Try.underlying5 b off n c (nums bs) (by simp [nums, hl]) (fun i hi => by
      have hi' : i < bs.length := by omega
      rw [h.at i hi']
      simp [nums, List.getD, hi']) 9 Try.underlying9
    rw [this]
    rfl
theorem cmp_swap : ∀ a b : List UInt8, Lib.compareBytes b a = - Lib.compareBytes a b
  | [], [] => rfl
  | [], _ :: _ => rfl
  | _ :: _, [] => rfl
  | a :: l1, b :: l2 => by
    have ih := cmp_swap l1 l2
    simp only [Lib.compareBytes]
    by_cases h1 : a < b
    · have h2 : ¬ b < a := UInt8.lt_asymm h1
      simp [h1, h2]
    · by_cases h2 : b < a
      · simp [h1, h2]
      · simp [h1, h2, ih]
theorem cmp_zero : ∀ a b : List UInt8, Lib.compareBytes a b = 0 ↔ a = b
  | [], [] => by simp [Lib.compareBytes]
  | [], _ :: _ => by simp [Lib.compareBytes]
  | _ :: _, [] => by simp [Lib.compareBytes]
  | a :: l1, b :: l2 => by
    have ih := cmp_zero l1 l2
    simp only [Lib.compareBytes]
    by_cases h1 : a < b
    · have : a ≠ b := fun e => UInt8.lt_irrefl b (e ▸ h1)
      simp [h1, this]
    · by_cases h2 : b < a
      · have : a ≠ b := fun e => UInt8.lt_irrefl b (e ▸ h2)
        simp [h1, h2, this]
      · have : a = b := UInt8.le_antisymm (UInt8.not_lt.1 h2) (UInt8.not_lt.1 h1)
        simp [ih, this]
theorem cmp_vals : ∀ a b : List UInt8, Lib.compareBytes a b = -1 ∨ Lib.compareBytes a b = 0 ∨ Lib.compareBytes a b = 1
  | [], [] => by simp [Lib.compareBytes]
  | [], _ :: _ => by simp [Lib.compareBytes]
  | _ :: _, [] => by simp [Lib.compareBytes]
  | a :: l1, b :: l2 => by
    have ih := cmp_vals l1 l2
    simp only [Lib.compareBytes]
    repeat' split
    all_goals simp_all
theorem cmp_lt : ∀ a b c : List UInt8, Lib.compareBytes a b = -1 → Lib.compareBytes b c = -1 → Lib.compareBytes a c = -1
  | [], [], c => by simp [Lib.compareBytes]
  | [], _ :: _, [] => by simp [Lib.compareBytes]
  | [], _ :: _, _ :: _ => by simp [Lib.compareBytes]
  | _ :: _, [], _ => by simp [Lib.compareBytes]
  | _ :: _, _ :: _, [] => by simp [Lib.compareBytes]
  | a :: l1, b :: l2, c :: l3 => by
    have ih := cmp_lt l1 l2 l3
    simp only [Lib.compareBytes]
    intro h1 h2
    by_cases x1 : a < b
    · by_cases x2 : b < c
      · simp [UInt8.lt_trans x1 x2]
      · by_cases x3 : c < b
        · simp [x2, x3] at h2
        · have : b = c := UInt8.le_antisymm (UInt8.not_lt.1 x3) (UInt8.not_lt.1 x2)
          subst this
          simp [x1]
    · by_cases x1' : b < a
      · simp [x1, x1'] at h1
      · have : a = b := UInt8.le_antisymm (UInt8.not_lt.1 x1') (UInt8.not_lt.1 x1)
        subst this
        by_cases x2 : a < c
        · simp [x2]
        · by_cases x3 : c < a
          · simp [x2, x3] at h2
          · simp only [x1, x2, x3, if_false] at h1 h2 ⊢
            exact ih h1 h2
theorem less_cmp : ∀ a b : List UInt8, Op.bytesLess a b = true ↔ Lib.compareBytes a b = -1
  | [], [] => by simp [Lib.compareBytes, Op.bytesLess]
  | [], _ :: _ => by simp [Lib.compareBytes, Op.bytesLess]
  | _ :: _, [] => by simp [Lib.compareBytes, Op.bytesLess]
  | a :: l1, b :: l2 => by
    have ih := less_cmp l1 l2
    simp only [Lib.compareBytes, Op.bytesLess]
    by_cases h1 : a < b
    · simp [h1]
    · by_cases h2 : b < a
      · have : a ≠ b := fun e => UInt8.lt_irrefl b (e ▸ h2)
        simp [h1, h2, this]
      · have : a = b := UInt8.le_antisymm (UInt8.not_lt.1 h2) (UInt8.not_lt.1 h1)
        simp [ih, this]
theorem u8s_inj {a b : List (BitVec 8)} (h : u8s a = u8s b) : a = b := by
  induction a generalizing b with
  | nil => cases b with
    | nil => rfl
    | cons y r => simp [u8s, nums, Lib.bytesOf] at h
  | cons x l ih => cases b with
    | nil => simp [u8s, nums, Lib.bytesOf] at h
    | cons y r =>
      simp only [u8s, nums, Lib.bytesOf, List.map_cons, List.cons.injEq, Int.toNat_natCast] at h
      have hx : x = y := by
        have := congrArg UInt8.toNat h.1
        have h1 := x.isLt
        have h2 := y.isLt
        simp only [UInt8.toNat_ofNat'] at this
        exact BitVec.eq_of_toNat_eq (by omega)
      rw [hx, ih h.2]
/-- An entry's key and number. -/
abbrev En := List (BitVec 8) × Nat
def cmpE (x y : En) : Int := if cmpB x.1 y.1 ≠ 0 then cmpB x.1 y.1 else if y.2 < x.2 then -1 else if x.2 < y.2 then 1 else 0
theorem cmpB_swap (a b : List (BitVec 8)) : cmpB b a = - cmpB a b := cmp_swap _ _
theorem cmpB_zero (a b : List (BitVec 8)) : cmpB a b = 0 ↔ a = b := (cmp_zero _ _).trans ⟨u8s_inj, fun e => by rw [e]⟩
theorem cmpB_vals (a b : List (BitVec 8)) : cmpB a b = -1 ∨ cmpB a b = 0 ∨ cmpB a b = 1 := cmp_vals _ _
theorem cmpB_lt {a b c : List (BitVec 8)} (h : cmpB a b = -1) (k : cmpB b c = -1) : cmpB a c = -1 := cmp_lt _ _ _ h k
theorem cmpE_swap (x y : En) : cmpE y x = - cmpE x y := by
  unfold cmpE
  rw [cmpB_swap x.1 y.1]
  have := cmpB_vals x.1 y.1
  generalize cmpB x.1 y.1 = z at *
  repeat' split
  all_goals omega
theorem cmpE_zero (x y : En) : cmpE x y = 0 ↔ x.1 = y.1 ∧ x.2 = y.2 := by
  unfold cmpE
  rw [← cmpB_zero]
  generalize cmpB x.1 y.1 = z at *
  repeat' split
  all_goals omega
theorem cmpE_trans (x y z : En) (h1 : cmpE x y ≤ 0) (h2 : cmpE y z ≤ 0) : cmpE x z ≤ 0 := by
  unfold cmpE at *
  have v1 := cmpB_vals x.1 y.1
  have v2 := cmpB_vals y.1 z.1
  have v3 := cmpB_vals x.1 z.1
  rcases v1 with e1 | e1 | e1
  · rcases v2 with e2 | e2 | e2
    · rw [cmpB_lt e1 e2, if_pos (by decide)]; decide
    · rw [(cmpB_zero _ _).1 e2] at e1
      rw [e1, if_pos (by decide)]; decide
    · rw [e2, if_pos (by decide)] at h2; exact absurd h2 (by decide)
  · have ex := (cmpB_zero _ _).1 e1
    rw [ex] at h1 ⊢
    rcases v2 with e2 | e2 | e2
    · rw [e2, if_pos (by decide)]; decide
    · have ez := (cmpB_zero _ _).1 e2
      rw [ez] at h1 h2 ⊢
      have e0 : cmpB z.1 z.1 = 0 := (cmpB_zero _ _).2 rfl
      rw [e0] at h1 h2 ⊢
      simp only [ne_eq, not_true, if_false] at h1 h2 ⊢
      repeat' split at h1
      all_goals repeat' split at h2
      all_goals repeat' split
      all_goals omega
    · rw [e2, if_pos (by decide)] at h2; exact absurd h2 (by decide)
  · rw [e1, if_pos (by decide)] at h1; exact absurd h1 (by decide)

def orN (x y : Int) : Int := if x ≠ 0 then x else y
def cmpN (x y : Nat) : Int := if x < y then -1 else if y < x then 1 else 0
theorem or_two (b : Nat) (x y : Int) (w : World) (h0 : w.cell? ⟨b, 0, none⟩ = some (.int .i64 x)) (h1 : w.cell? ⟨b, 1, none⟩ = some (.int .i64 y)) :
    Calls Try.prog 50 #[.slice (some ⟨b, 0, none⟩) 2 2] w fun e w' => e = .returned (.int .i64 (orN x y)) ∧ w' = w := by
  have H0 := hide h0
  have H1 := hide h1
  clear h0 h1
  go_enter Try.func50, Try.ntmps50
  go_wp2_with fail
  go_loopw [8] (fun i wr => ∃ k : Nat, i = .int .i64 (k : Nat) ∧ k ≤ 2 ∧ (0 < k → x = 0) ∧ (1 < k → y = 0) ∧ wr = w) (fun i _ => 2 - (intOf i).toNat)
  case atStart => exact ⟨0, rfl, by decide, fun h => absurd h (by decide), fun h => absurd h (by decide), rfl⟩
  case round =>
    obtain ⟨k, rfl, hk, hx, hy, hw⟩ := hrel
    subst hw
    have HX := hide hx
    have HY := hide hy
    clear hx hy
    have hcell : k < 2 → ∃ v : Int, wr.cell? ⟨b, k, none⟩ = some (.int .i64 v) ∧ (k = 0 → v = x) ∧ (k = 1 → v = y) := by
      intro h
      have : k = 0 ∨ k = 1 := by omega
      rcases this with rfl | rfl
      · exact ⟨x, H0.out, fun _ => rfl, fun e => by omega⟩
      · exact ⟨y, H1.out, fun e => by omega, fun _ => rfl⟩
    by_cases hkn : k < 2
    · obtain ⟨v, hc, hv0, hv1⟩ := hcell hkn
      have HV0 := hide hv0
      have HV1 := hide hv1
      have i1 : (k : Int) < (2 : Int) := by omega
      have i0 : (0 : Int) ≤ (k : Int) := by omega
      clear hcell hv0 hv1
      by_cases hv : v = 0
      · subst hv
        go_wp2_with fail
        go_roundw
        case rel =>
          refine ⟨k + 1, by go_num, by omega, fun _ => ?_, fun h => ?_, by trivial⟩
          · by_cases e : k = 0
            · exact (HV0.out e).symm
            · exact HX.out (by omega)
          · exact (HV1.out (by omega)).symm
        case measure => simp [intOf]; omega
      · go_wp2_with fail
        go_ret
        refine ⟨congrArg Ending.returned (congrArg (Value.int IntKind.i64) ?_), rfl⟩
        unfold orN
        by_cases e : k = 0
        · have := HV0.out e
          subst this
          rw [if_pos hv]
        · have h1 := HX.out (by omega)
          have h2 := HV1.out (by omega)
          rw [if_neg (by simpa using h1), h2]
    · obtain rfl : k = 2 := by omega
      have e1 := HX.out (by decide)
      have e2 := HY.out (by decide)
      go_wp2_with fail
      go_ret
      refine ⟨congrArg Ending.returned (congrArg (Value.int IntKind.i64) ?_), rfl⟩
      unfold orN
      rw [if_neg (by simpa using e1), e2]
theorem cmp64_any (x y : Nat) (w : World) : Calls Try.prog 52 #[.int .u64 x, .int .u64 y] w fun e w' => e = .returned (.int .i64 (cmpN x y)) ∧ w' = w := by
  go_enter Try.func52, Try.ntmps52
  go_wp2
  all_goals go_ret
  all_goals refine ⟨congrArg Ending.returned (congrArg (Value.int IntKind.i64) ?_), rfl⟩
  · rw [cmpN, if_pos (by omega)]
  · rw [cmpN, if_neg (by omega), if_pos (by omega)]
  · rw [cmpN, if_neg (by omega), if_neg (by omega)]
theorem alloc_keep {w : World} {a : Addr} {v : Value} (h : w.cell? a = some v) (o : Obj) : (w.alloc o).cell? a = some v :=
  (((Below.refl w.heap.size w).alloc (Nat.le_refl _) o).cell (block_lt_of_cell h)).trans h
theorem compare_any (ka kb va vb : Option Addr) (kn kc vn vc kn' kc' vn' vc' : Nat) (kx ky : Int) (sx sy : Nat) (x y : List (BitVec 8)) (w : World) (h : Bytes w (.slice ka kn kc) x) (h' : Bytes w (.slice kb kn' kc') y) :
    Calls Try.prog 34 #[.agg #[.slice ka kn kc, .int .u64 sx, .int .i64 kx, .slice va vn vc], .agg #[.slice kb kn' kc', .int .u64 sy, .int .i64 ky, .slice vb vn' vc']] w fun e w' => e = .returned (.int .i64 (cmpE (x, sx) (y, sy))) ∧ Below w.heap.size w w' := by
  have H := hide h
  have H' := hide h'
  clear h h'
  go_enter Try.func34, Try.ntmps34
  go_wp2_with fail
  have n0 := heap_alloc_new w (.cells #[.slice ka kn kc, .int .u64 sx, .int .i64 kx, .slice va vn vc] 25)
  have b0 := (Below.refl w.heap.size w).alloc (Nat.le_refl _) (.cells #[.slice ka kn kc, .int .u64 sx, .int .i64 kx, .slice va vn vc] 25)
  have n1 := heap_alloc_new (w.alloc (.cells #[.slice ka kn kc, .int .u64 sx, .int .i64 kx, .slice va vn vc] 25)) (.cells #[.slice kb kn' kc', .int .u64 sy, .int .i64 ky, .slice vb vn' vc'] 25)
  have b1 := b0.alloc b0.size (.cells #[.slice kb kn' kc', .int .u64 sy, .int .i64 ky, .slice vb vn' vc'] 25)
  have n0' := heap_keep ((Below.refl _ (w.alloc (.cells #[.slice ka kn kc, .int .u64 sx, .int .i64 kx, .slice va vn vc] 25))).alloc (Nat.le_refl _) (.cells #[.slice kb kn' kc', .int .u64 sy, .int .i64 ky, .slice vb vn' vc'] 25)) n0
  rw [World.size_alloc] at n1
  have B1 := hide b1
  have K := hide (H.out.below b1)
  have K' := hide (H'.out.below b1)
  clear n0 b0 b1 H H'
  generalize (w.alloc (.cells #[.slice ka kn kc, .int .u64 sx, .int .i64 kx, .slice va vn vc] 25)).alloc (.cells #[.slice kb kn' kc', .int .u64 sy, .int .i64 ky, .slice vb vn' vc'] 25) = w0 at *
  have c0 : w0.cell? ⟨w.heap.size, 0, none⟩ = some (.slice ka kn kc) := cell_of_row w0 _ 0 _ 25 (0, 0) n0'
  have c1 : w0.cell? ⟨w.heap.size, 1, none⟩ = some (.int .u64 sx) := cell_of_row w0 _ 1 _ 25 (0, 0) n0'
  have d0 : w0.cell? ⟨w.heap.size + 1, 0, none⟩ = some (.slice kb kn' kc') := cell_of_row w0 _ 0 _ 25 (0, 0) n1
  have d1 : w0.cell? ⟨w.heap.size + 1, 1, none⟩ = some (.int .u64 sy) := cell_of_row w0 _ 1 _ 25 (0, 0) n1
  have hval : orN (cmpB x y) (cmpN sy sx) = cmpE (x, sx) (y, sy) := rfl
  have HVAL := hide hval
  clear n0' n1 hval
  generalize hq1 : cmpB x y = q1 at *
  generalize hq2 : cmpN sy sx = q2 at *
  have Q1 := hide hq1
  have Q2 := hide hq2
  clear hq1 hq2
  go_region_held (fun w' => w'.cell? ⟨w.heap.size, 0, none⟩ = some (.slice ka kn kc) ∧ w'.cell? ⟨w.heap.size, 1, none⟩ = some (.int .u64 sx) ∧ w'.cell? ⟨w.heap.size + 1, 0, none⟩ = some (.slice kb kn' kc') ∧ w'.cell? ⟨w.heap.size + 1, 1, none⟩ = some (.int .u64 sy)) (first | (with_reducible exact ⟨c0, c1, d0, d1⟩) | (simp only [World.cell?_drew]; with_reducible exact ⟨c0, c1, d0, d1⟩) | exact ⟨alloc_keep (w := w0.drew) c0 _, alloc_keep (w := w0.drew) c1 _, alloc_keep (w := w0.drew) d0 _, alloc_keep (w := w0.drew) d1 _⟩) (first
    | (go_at_call 51; refine (compareB_any ka kb kn kn' kc kc' x y w0.drew K.out K'.out).mono ?_; rintro e w1 ⟨rfl, rfl⟩; rw [Q1.out])
    | (go_at_call 52; refine (cmp64_any sy sx _).mono ?_; rintro e w1 ⟨rfl, rfl⟩; rw [Q2.out])
    | (go_at_call 50; refine (or_two w0.heap.size q1 q2 _ (by go_cell) (by go_cell)).mono ?_; rintro e w1 ⟨rfl, rfl⟩))
  all_goals go_wp2_with fail
  go_ret
  exact ⟨congrArg Ending.returned (congrArg (Value.int IntKind.i64) HVAL.out), B1.out.drew.alloc B1.out.size _⟩
end Go.Proofs.Ytjnpendihdlgnaa
