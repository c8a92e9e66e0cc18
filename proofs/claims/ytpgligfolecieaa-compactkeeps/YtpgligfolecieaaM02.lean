import Derived.Test.YtpgligfolecieaaM01
import Derived.Lib.BytesEntry
import Derived.Laws.BytesArg
import Derived.Laws.Externs
/-
  How bytes, and entries, are compared.
-/
namespace Go.Proofs.Ytpgligfolecieaa
open Go.RowKit
set_option maxRecDepth 100000
set_option maxHeartbeats 4000000
def nums (bs : List (BitVec 8)) : List Int := bs.map fun b => (b.toNat : Int)
/-- Bytes as the library's words have them. -/
def u8s (bs : List (BitVec 8)) : List UInt8 := Lib.bytesOf (nums bs)
theorem bytesOf_any {P : Program} {w : World} {a : Option Addr} {n c : Nat} {bs : List (BitVec 8)} (h : Bytes w (.slice a n c) bs) : (Extern.Bytes.bytesOf (.slice a n c)).run P w = .ok ⟨(u8s bs).toArray⟩ w := by
  have hl := h.len
  cases a with
  | none =>
    obtain rfl : bs = [] := by
      rcases Nat.eq_zero_or_pos n with h0 | h0
      · exact List.eq_nil_of_length_eq_zero (by omega)
      · obtain ⟨_, _, e⟩ := h.addr h0; cases e
    rfl
  | some ad =>
    rcases Nat.eq_zero_or_pos n with h0 | h0
    · subst h0
      obtain rfl : bs = [] := List.eq_nil_of_length_eq_zero hl.symm
      rfl
    · obtain ⟨b, off, e⟩ := h.addr h0
      cases e
      have := Lib.run_loadBytesX (P := P) w (nums bs) ⟨b, off, none⟩ .empty (fun j x hj => by
        have hj' : j < bs.length := by simpa [nums] using (List.getElem?_eq_some_iff.1 hj).1
        rw [Go.WideShapes.add_plain, h.at j hj']
        have : (bs[j].toNat : Int) = x := by simpa [nums, hj'] using hj
        rw [← this]
        simp [List.getD, hj'])
      rw [show (nums bs).length = n by simp [nums, hl]] at this
      rw [show Extern.Bytes.bytesOf (.slice (some ⟨b, off, none⟩) n c) = Extern.Bytes.loadBytes ⟨b, off, none⟩ n .empty from rfl, this]
      congr 1
      apply ByteArray.ext
      show (#[] : Array UInt8) ++ (u8s bs).toArray = (u8s bs).toArray
      simp
def cmpB (a b : List (BitVec 8)) : Int := Lib.compareBytes (u8s a) (u8s b)
theorem compareB_any (a a' : Option Addr) (n n' c c' : Nat) (x y : List (BitVec 8)) (w : World) (h : Bytes w (.slice a n c) x) (h' : Bytes w (.slice a' n' c') y) :
    Calls Try.prog 65 #[.slice a n c, .slice a' n' c'] w fun e w' => e = .returned (.int .i64 (cmpB x y)) ∧ w' = w := by
  have hcf : (callFunc 75 #[.slice a n c, .slice a' n' c']).run Try.prog w = .ok (.value (.int .i64 (cmpB x y))) w := by
    rw [run_callFunc_extern Try.func75 (by kernel_rfl) (by kernel_rfl) (by kernel_rfl) (e := Extern.BytealgCompare.compare) (by kernel_rfl)]
    have : (Extern.BytealgCompare.compare #[.slice a n c, .slice a' n' c']).run Try.prog w = .ok (.int .i64 (cmpB x y)) w := by
      change Sem.run Try.prog (do pure (goInt (Extern.BytealgCompare.cmp (← Extern.Bytes.bytesOf (.slice a n c)) (← Extern.Bytes.bytesOf (.slice a' n' c'))))) w = _
      simp only [Sem.run_bind, bytesOf_any h, bytesOf_any h', Sem.run_pure, Result.andThen]
      rw [Lib.cmp_eq]
      rfl
    rw [this]
    rfl
  clear h h'
  generalize cmpB x y = z at *
  go_enter Try.func65, Try.ntmps65
  go_wp2_with fail
  go_ret
  exact ⟨rfl, rfl⟩
theorem conv_any {w : World} {a : Option Addr} {n c : Nat} {bs : List (BitVec 8)} (h : Bytes w (.slice a n c) bs) : (convert 26 9 (.slice a n c)).run Try.prog w = .ok (.string ⟨(u8s bs).toArray⟩) w := by
  have hl := h.len
  rcases Nat.eq_zero_or_pos n with h0 | h0
  · subst h0
    obtain rfl : bs = [] := List.eq_nil_of_length_eq_zero hl.symm
    cases a with
    | none => exact run_convert_bytes_nil w 26 5 Try.underlying26 Try.underlying5 0 c 9 Try.underlying9
    | some ad =>
      rw [run_convert_bytes_string w 26 9 5 _ 0 c Try.underlying26 Try.underlying5 Try.underlying9]
      simp [Conv.bytesToString, loadCells]
      rfl
  · obtain ⟨b, off, rfl⟩ := h.addr h0
    have := run_convert_bytes_arg (P := Try.prog) w 26 5 Try.underlying26 Try.underlying5 b off n c (nums bs) (by simp [nums, hl]) (fun i hi => by
      have hi' : i < bs.length := by omega
      rw [h.at i hi']
      simp [nums, List.getD, hi']) 9 Try.underlying9
    rw [this]
    rfl
theorem cmp_swap : ∀ a b : List UInt8, Lib.compareBytes b a = - Lib.compareBytes a b
  | [], [] => rfl
  | [], _ :: _ => rfl
  | _ :: _, [] => rfl
  | a :: l1, b :: l2 => by
    have ih := cmp_swap l1 l2
    simp only [Lib.compareBytes]
    by_cases h1 : a < b
    · have h2 : ¬ b < a := UInt8.lt_asymm h1
      simp [h1, h2]
    · by_cases h2 : b < a
      · simp [h1, h2]
      · simp [h1, h2, ih]
theorem cmp_zero : ∀ a b : List UInt8, Lib.compareBytes a b = 0 ↔ a = b
  | [], [] => by simp [Lib.compareBytes]
  | [], _ :: _ => by simp [Lib.compareBytes]
  | _ :: _, [] => by simp [Lib.compareBytes]
  | a :: l1, b :: l2 => by
    have ih := cmp_zero l1 l2
    simp only [Lib.compareBytes]
    by_cases h1 : a < b
    · have : a ≠ b := fun e => UInt8.lt_irrefl b (e ▸ h1)
      simp [h1, this]
    · by_cases h2 : b < a
      · have : a ≠ b := fun e => UInt8.lt_irrefl b (e ▸ h2)
        simp [h1, h2, this]
      · have : a = b := UInt8.le_antisymm (UInt8.not_lt.1 h2) (UInt8.not_lt.1 h1)
        simp [ih, this]
theorem cmp_vals : ∀ a b : List UInt8, Lib.compareBytes a b = -1 ∨ Lib.compareBytes a b = 0 ∨ Lib.compareBytes a b = 1
  | [], [] => by simp [Lib.compareBytes]
  | [], _ :: _ => by simp [Lib.compareBytes]
  | _ :: _, [] => by simp [Lib.compareBytes]
  | a :: l1, b :: l2 => by
    have ih := cmp_vals l1 l2
    simp only [Lib.compareBytes]
    repeat' split
    all_goals simp_all
theorem cmp_lt : ∀ a b c : List UInt8, Lib.compareBytes a b = -1 → Lib.compareBytes b c = -1 → Lib.compareBytes a c = -1
  | [], [], c => by simp [Lib.compareBytes]
  | [], _ :: _, [] => by simp [Lib.compareBytes]
  | [], _ :: _, _ :: _ => by simp [Lib.compareBytes]
  | _ :: _, [], _ => by simp [Lib.compareBytes]
  | _ :: _, _ :: _, [] => by simp [Lib.compareBytes]
  | a :: l1, b :: l2, c :: l3 => by
    have ih := cmp_lt l1 l2 l3
    simp only [Lib.compareBytes]
    intro h1 h2
    by_cases x1 : a < b
    · by_cases x2 : b < c
      · simp [UInt8.lt_trans x1 x2]
      · by_cases x3 : c < b
        · simp [x2, x3] at h2
        · have : b = c := UInt8.le_antisymm (UInt8.not_lt.1 x3) (UInt8.not_lt.1 x2)
          subst this
          simp [x1]
    · by_cases x1' : b < a
      · simp [x1, x1'] at h1
      · have : a = b := UInt8.le_antisymm (UInt8.not_lt.1 x1') (UInt8.not_lt.1 x1)
        subst this
        by_cases x2 : a < c
        · simp [x2]
        · by_cases x3 : c < a
          · simp [x2, x3] at h2
          · simp only [x1, x2, x3, if_false] at h1 h2 ⊢
            exact ih h1 h2
theorem less_cmp : ∀ a b : List UInt8, Op.bytesLess a b = true ↔ Lib.compareBytes a b = -1
  | [], [] => by simp [Lib.compareBytes, Op.bytesLess]
  | [], _ :: _ => by simp [Lib.compareBytes, Op.bytesLess]
  | _ :: _, [] => by simp [Lib.compareBytes, Op.bytesLess]
  | a :: l1, b :: l2 => by
    have ih := less_cmp l1 l2
    simp only [Lib.compareBytes, Op.bytesLess]
    by_cases h1 : a < b
    · simp [h1]
    · by_cases h2 : b < a
      · have : a ≠ b := fun e => UInt8.lt_irrefl b (e ▸ h2)
        simp [h1, h2, this]
      · have : a = b := UInt8.le_antisymm (UInt8.not_lt.1 h2) (UInt8.not_lt.1 h1)
        simp [ih, this]
theorem u8s_inj {a b : List (BitVec 8)} (h : u8s a = u8s b) : a = b := by
  induction a generalizing b with
  | nil => cases b with
    | nil => rfl
    | cons y r => simp [u8s, nums, Lib.bytesOf] at h
  | cons x l ih => cases b with
    | nil => simp [u8s, nums, Lib.bytesOf] at h
    | cons y r =>
      simp only [u8s, nums, Lib.bytesOf, List.map_cons, List.cons.injEq, Int.toNat_natCast] at h
      have hx : x = y := by
        have := congrArg UInt8.toNat h.1
        have h1 := x.isLt
        have h2 := y.isLt
        simp only [UInt8.toNat_ofNat'] at this
        exact BitVec.eq_of_toNat_eq (by omega)
      rw [hx, ih h.2]
/-- An entry's key and number. -/
abbrev En := List (BitVec 8) × Nat
def cmpE (x y : En) : Int := if cmpB x.1 y.1 ≠ 0 then cmpB x.1 y.1 else if y.2 < x.2 then -1 else if x.2 < y.2 then 1 else 0
theorem cmpB_swap (a b : List (BitVec 8)) : cmpB b a = - cmpB a b := cmp_swap _ _
theorem cmpB_zero (a b : List (BitVec 8)) : cmpB a b = 0 ↔ a = b := (cmp_zero _ _).trans ⟨u8s_inj, fun e => by rw [e]⟩
theorem cmpB_vals (a b : List (BitVec 8)) : cmpB a b = -1 ∨ cmpB a b = 0 ∨ cmpB a b = 1 := cmp_vals _ _
theorem cmpB_lt {a b c : List (BitVec 8)} (h : cmpB a b = -1) (k : cmpB b c = -1) : cmpB a c = -1 := cmp_lt _ _ _ h k
theorem cmpE_swap (x y : En) : cmpE y x = - cmpE x y := by
  unfold cmpE
  rw [cmpB_swap x.1 y.1]
  have := cmpB_vals x.1 y.1
  generalize cmpB x.1 y.1 = z at *
  repeat' split
  all_goals omega
theorem cmpE_zero (x y : En) : cmpE x y = 0 ↔ x.1 = y.1 ∧ x.2 = y.2 := by
  unfold cmpE
  rw [← cmpB_zero]
  generalize cmpB x.1 y.1 = z at *
  repeat' split
  all_goals omega
theorem cmpE_trans (x y z : En) (h1 : cmpE x y ≤ 0) (h2 : cmpE y z ≤ 0) : cmpE x z ≤ 0 := by
  unfold cmpE at *
  have v1 := cmpB_vals x.1 y.1
  have v2 := cmpB_vals y.1 z.1
  have v3 := cmpB_vals x.1 z.1
  rcases v1 with e1 | e1 | e1
  · rcases v2 with e2 | e2 | e2
    · rw [cmpB_lt e1 e2, if_pos (by decide)]; decide
    · rw [(cmpB_zero _ _).1 e2] at e1
      rw [e1, if_pos (by decide)]; decide
    · rw [e2, if_pos (by decide)] at h2; exact absurd h2 (by decide)
  · have ex := (cmpB_zero _ _).1 e1
    rw [ex] at h1 ⊢
    rcases v2 with e2 | e2 | e2
    · rw [e2, if_pos (by decide)]; decide
    · have ez := (cmpB_zero _ _).1 e2
      rw [ez] at h1 h2 ⊢
      have e0 : cmpB z.1 z.1 = 0 := (cmpB_zero _ _).2 rfl
      rw [e0] at h1 h2 ⊢
      simp only [ne_eq, not_true, if_false] at h1 h2 ⊢
      repeat' split at h1
      all_goals repeat' split at h2
      all_goals repeat' split
      all_goals omega
    · rw [e2, if_pos (by decide)] at h2; exact absurd h2 (by decide)
  · rw [e1, if_pos (by decide)] at h1; exact absurd h1 (by decide)

def orN (x y : Int) : Int := if x ≠ 0 then x else y
def cmpN (x y : Nat) : Int := if x < y then -1 else if y < x then 1 else 0
theorem or_two (b : Nat) (x y : Int) (w : World) (h0 : w.cell? ⟨b, 0, none⟩ = some (.int .i64 x)) (h1 : w.cell? ⟨b, 1, none⟩ = some (.int .i64 y)) :
    Calls Try.prog 64 #[.slice (some ⟨b, 0, none⟩) 2 2] w fun e w' => e = .returned (.int .i64 (orN x y)) ∧ w' = w := by
  have H0 := hide h0
  have H1 := hide h1
  clear h0 h1
  go_enter Try.func64, Try.ntmps64
  go_wp2_with fail
  go_loopw [8] (fun i wr => ∃ k : Nat, i = .int .i64 (k : Nat) ∧ k ≤ 2 ∧ (0 < k → x = 0) ∧ (1 < k → y = 0) ∧ wr = w) (fun i _ => 2 - (intOf i).toNat)
  case atStart => exact ⟨0, rfl, by decide, fun h => absurd h (by decide), fun h => absurd h (by decide), rfl⟩
  case round =>
    obtain ⟨k, rfl, hk, hx, hy, hw⟩ := hrel
    subst hw
    have HX := hide hx
    have HY := hide hy
    clear hx hy
    have hcell : k < 2 → ∃ v : Int, wr.cell? ⟨b, k, none⟩ = some (.int .i64 v) ∧ (k = 0 → v = x) ∧ (k = 1 → v = y) := by
      intro h
      have : k = 0 ∨ k = 1 := by omega
      rcases this with rfl | rfl
      · exact ⟨x, H0.out, fun _ => rfl, fun e => by omega⟩
      · exact ⟨y, H1.out, fun e => by omega, fun _ => rfl⟩
    by_cases hkn : k < 2
    · obtain ⟨v, hc, hv0, hv1⟩ := hcell hkn
      have HV0 := hide hv0
      have HV1 := hide hv1
      have i1 : (k : Int) < (2 : Int) := by omega
      have i0 : (0 : Int) ≤ (k : Int) := by omega
      clear hcell hv0 hv1
      by_cases hv : v = 0
      · subst hv
        go_wp2_with fail
        go_roundw
        case rel =>
          refine ⟨k + 1, by go_num, by omega, fun _ => ?_, fun h => ?_, by trivial⟩
          · by_cases e : k = 0
            · exact (HV0.out e).symm
            · exact HX.out (by omega)
          · exact (HV1.out (by omega)).symm
        case measure => simp [intOf]; omega
      · go_wp2_with fail
        go_ret
        refine ⟨congrArg Ending.returned (congrArg (Value.int IntKind.i64) ?_), rfl⟩
        unfold orN
        by_cases e : k = 0
        · have := HV0.out e
          subst this
          rw [if_pos hv]
        · have h1 := HX.out (by omega)
          have h2 := HV1.out (by omega)
          rw [if_neg (by simpa using h1), h2]
    · obtain rfl : k = 2 := by omega
      have e1 := HX.out (by decide)
      have e2 := HY.out (by decide)
      go_wp2_with fail
      go_ret
      refine ⟨congrArg Ending.returned (congrArg (Value.int IntKind.i64) ?_), rfl⟩
      unfold orN
      rw [if_neg (by simpa using e1), e2]
theorem cmp64_any (x y : Nat) (w : World) : Calls Try.prog 66 #[.int .u64 x, .int .u64 y] w fun e w' => e = .returned (.int .i64 (cmpN x y)) ∧ w' = w := by
  go_enter Try.func66, Try.ntmps66
  go_wp2
  all_goals go_ret
  all_goals refine ⟨congrArg Ending.returned (congrArg (Value.int IntKind.i64) ?_), rfl⟩
  · rw [cmpN, if_pos (by omega)]
  · rw [cmpN, if_neg (by omega), if_pos (by omega)]
  · rw [cmpN, if_neg (by omega), if_neg (by omega)]
theorem alloc_keep {w : World} {a : Addr} {v : Value} (h : w.cell? a = some v) (o : Obj) : (w.alloc o).cell? a = some v :=
  (((Below.refl w.heap.size w).alloc (Nat.le_refl _) o).cell (block_lt_of_cell h)).trans h
theorem compare_any (ka kb va vb : Option Addr) (kn kc vn vc kn' kc' vn' vc' : Nat) (kx ky : Int) (sx sy : Nat) (x y : List (BitVec 8)) (w : World) (h : Bytes w (.slice ka kn kc) x) (h' : Bytes w (.slice kb kn' kc') y) :
    Calls Try.prog 48 #[.agg #[.slice ka kn kc, .int .u64 sx, .int .i64 kx, .slice va vn vc], .agg #[.slice kb kn' kc', .int .u64 sy, .int .i64 ky, .slice vb vn' vc']] w fun e w' => e = .returned (.int .i64 (cmpE (x, sx) (y, sy))) ∧ Below w.heap.size w w' := by
  have H := hide h
  have H' := hide h'
  clear h h'
  go_enter Try.func48, Try.ntmps48
  go_wp2_with fail
  have n0 := heap_alloc_new w (.cells #[.slice ka kn kc, .int .u64 sx, .int .i64 kx, .slice va vn vc] 29)
  have b0 := (Below.refl w.heap.size w).alloc (Nat.le_refl _) (.cells #[.slice ka kn kc, .int .u64 sx, .int .i64 kx, .slice va vn vc] 29)
  have n1 := heap_alloc_new (w.alloc (.cells #[.slice ka kn kc, .int .u64 sx, .int .i64 kx, .slice va vn vc] 29)) (.cells #[.slice kb kn' kc', .int .u64 sy, .int .i64 ky, .slice vb vn' vc'] 29)
  have b1 := b0.alloc b0.size (.cells #[.slice kb kn' kc', .int .u64 sy, .int .i64 ky, .slice vb vn' vc'] 29)
  have n0' := heap_keep ((Below.refl _ (w.alloc (.cells #[.slice ka kn kc, .int .u64 sx, .int .i64 kx, .slice va vn vc] 29))).alloc (Nat.le_refl _) (.cells #[.slice kb kn' kc', .int .u64 sy, .int .i64 ky, .slice vb vn' vc'] 29)) n0
  rw [World.size_alloc] at n1
  have B1 := hide b1
  have K := hide (H.out.below b1)
  have K' := hide (H'.out.below b1)
  clear n0 b0 b1 H H'
  generalize (w.alloc (.cells #[.slice ka kn kc, .int .u64 sx, .int .i64 kx, .slice va vn vc] 29)).alloc (.cells #[.slice kb kn' kc', .int .u64 sy, .int .i64 ky, .slice vb vn' vc'] 29) = w0 at *
  have c0 : w0.cell? ⟨w.heap.size, 0, none⟩ = some (.slice ka kn kc) := cell_of_row w0 _ 0 _ 29 (0, 0) n0'
  have c1 : w0.cell? ⟨w.heap.size, 1, none⟩ = some (.int .u64 sx) := cell_of_row w0 _ 1 _ 29 (0, 0) n0'
  have d0 : w0.cell? ⟨w.heap.size + 1, 0, none⟩ = some (.slice kb kn' kc') := cell_of_row w0 _ 0 _ 29 (0, 0) n1
  have d1 : w0.cell? ⟨w.heap.size + 1, 1, none⟩ = some (.int .u64 sy) := cell_of_row w0 _ 1 _ 29 (0, 0) n1
  have hval : orN (cmpB x y) (cmpN sy sx) = cmpE (x, sx) (y, sy) := rfl
  have HVAL := hide hval
  clear n0' n1 hval
  generalize hq1 : cmpB x y = q1 at *
  generalize hq2 : cmpN sy sx = q2 at *
  have Q1 := hide hq1
  have Q2 := hide hq2
  clear hq1 hq2
  go_region_held (fun w' => w'.cell? ⟨w.heap.size, 0, none⟩ = some (.slice ka kn kc) ∧ w'.cell? ⟨w.heap.size, 1, none⟩ = some (.int .u64 sx) ∧ w'.cell? ⟨w.heap.size + 1, 0, none⟩ = some (.slice kb kn' kc') ∧ w'.cell? ⟨w.heap.size + 1, 1, none⟩ = some (.int .u64 sy)) (first | (with_reducible exact ⟨c0, c1, d0, d1⟩) | (simp only [World.cell?_drew]; with_reducible exact ⟨c0, c1, d0, d1⟩) | exact ⟨alloc_keep (w := w0.drew) c0 _, alloc_keep (w := w0.drew) c1 _, alloc_keep (w := w0.drew) d0 _, alloc_keep (w := w0.drew) d1 _⟩) (first
    | (go_at_call 65; refine (compareB_any ka kb kn kn' kc kc' x y w0.drew K.out K'.out).mono ?_; rintro e w1 ⟨rfl, rfl⟩; rw [Q1.out])
    | (go_at_call 66; refine (cmp64_any sy sx _).mono ?_; rintro e w1 ⟨rfl, rfl⟩; rw [Q2.out])
    | (go_at_call 64; refine (or_two w0.heap.size q1 q2 _ (by go_cell) (by go_cell)).mono ?_; rintro e w1 ⟨rfl, rfl⟩))
  all_goals go_wp2_with fail
  go_ret
  exact ⟨congrArg Ending.returned (congrArg (Value.int IntKind.i64) HVAL.out), B1.out.drew.alloc B1.out.size _⟩
end Go.Proofs.Ytpgligfolecieaa

/-
  Whether bytes are the same; two writes in a row.
-/
namespace Go.Proofs.Ytpgligfolecieaa
open Go.RowKit
set_option maxRecDepth 100000
set_option maxHeartbeats 1000000
theorem take_eq_succ {x y : List (BitVec 8)} {k : Nat} (h1 : k < x.length) (h2 : k < y.length) (h : x.take k = y.take k) (e : x[k] = y[k]) : x.take (k + 1) = y.take (k + 1) := by
  rw [List.take_succ_eq_append_getElem h1, List.take_succ_eq_append_getElem h2, h, e]
theorem bytes_any (a a' : Option Addr) (n n' c c' : Nat) (x y : List (BitVec 8)) (w : World) (h : Bytes w (.slice a n c) x) (h' : Bytes w (.slice a' n' c') y) (hn : n ≤ 1000000000) :
    Calls Try.prog 25 #[.slice a n c, .slice a' n' c'] w fun e w' => e = .returned (.bool (decide (x = y))) ∧ ∃ m, w' = w.drewN m := by
  have hl := h.len
  have hl' := h'.len
  have H := hide h
  have H' := hide h'
  have HL := hide hl
  have HL' := hide hl'
  clear h h' hl hl'
  by_cases hnn : n = n'
  · subst hnn
    go_enter Try.func25, Try.ntmps25
    go_wp2_with fail
    go_loopw [5] (fun i wr => ∃ k : Nat, i = .int .i64 (k : Nat) ∧ k ≤ n ∧ x.take k = y.take k ∧ ∃ m, wr = w.drewN m) (fun i _ => n - (intOf i).toNat)
    case atStart => exact ⟨0, rfl, Nat.zero_le _, rfl, 0, rfl⟩
    case round =>
      obtain ⟨k, rfl, hk, htk, m, rfl⟩ := hrel
      have HTK := hide htk
      clear htk
      by_cases hkn : k < n
      · obtain ⟨b, off, rfl⟩ := H.out.addr (by omega)
        obtain ⟨b', off', rfl⟩ := H'.out.addr (by omega)
        have hkx : k < x.length := by have := HL.out; omega
        have hky : k < y.length := by have := HL'.out; omega
        have h1 := H.out.at k hkx
        have h2 := H'.out.at k hky
        have e1 : x.getD k 0 = x[k] := by simp [List.getD, hkx]
        have e2 : y.getD k 0 = y[k] := by simp [List.getD, hky]
        rw [e1] at h1
        rw [e2] at h2
        have i1 : (k : Int) < (n : Int) := by omega
        have i0 : (0 : Int) ≤ (k : Int) := by omega
        clear e1 e2
        by_cases hxy : x[k] = y[k]
        · have HT2 := hide (take_eq_succ hkx hky HTK.out hxy)
          rw [← hxy] at h2
          generalize x[k].toNat = q at *
          clear hxy
          go_wp2_with fail
          go_quiet (fail)
          go_wp2
          go_roundw
          case rel => exact ⟨k + 1, by go_num, by omega, HT2.out, _, rfl⟩
          case measure => simp [intOf]; omega
        · have hne : x[k].toNat ≠ y[k].toNat := fun e => hxy (BitVec.eq_of_toNat_eq e)
          have hxn : ¬ x = y := fun e => hxy (by subst e; rfl)
          have HXN := hide hxn
          generalize x[k].toNat = q at *
          generalize y[k].toNat = q' at *
          have hne' : ¬ (q : Int) = (q' : Int) := by omega
          clear hxy hxn hne
          go_wp2_with fail
          go_quiet (fail)
          go_wp2
          go_ret
          exact ⟨congrArg Ending.returned (congrArg Value.bool (decide_eq_false HXN.out).symm), _, World.drewN_drewN _ _ _⟩
      · obtain rfl : k = n := by omega
        have hxy : x = y := by
          have := HTK.out
          rwa [List.take_of_length_le (by have := HL.out; omega), List.take_of_length_le (by have := HL'.out; omega)] at this
        have HXY := hide hxy
        clear hxy
        go_wp2
        go_ret
        exact ⟨congrArg Ending.returned (congrArg Value.bool (decide_eq_true HXY.out).symm), m, rfl⟩
  · have hnn' : ¬ (n : Int) = (n' : Int) := by omega
    have hxn : ¬ x = y := fun e => hnn (by rw [HL.out, HL'.out, e])
    have HXN := hide hxn
    clear hxn
    go_enter Try.func25, Try.ntmps25
    go_wp2_with fail
    go_ret
    exact ⟨congrArg Ending.returned (congrArg Value.bool (decide_eq_false HXN.out).symm), 0, rfl⟩
end Go.Proofs.Ytpgligfolecieaa

/-
  One block turned.
-/
namespace Go.Proofs.Ytpgligfolecieaa
open Go.RowKit
def Tick (w w' : World) (f : Nat) (t : TypeId) (cs : Array Value) : Prop :=
  w'.heap[f]? = some (.cells cs t (0, 0)) ∧ w'.heap.size = w.heap.size ∧ (∀ b, b ≠ f → w'.heap[b]? = w.heap[b]?) ∧ ∀ B, B ≤ f → Below B w w'
theorem Tick.refl {w : World} {f : Nat} {t : TypeId} {cs : Array Value} (h : w.heap[f]? = some (.cells cs t (0, 0))) : Tick w w f t cs := ⟨h, rfl, fun _ _ => rfl, fun _ _ => Below.refl _ _⟩
theorem Tick.set {w w' : World} {f : Nat} {t : TypeId} {cs : Array Value} (h : Tick w w' f t cs) (o : Nat) (v : Value) : Tick w (w'.setCell ⟨f, o, none⟩ v) f t (cs.setIfInBounds o v) := by
  obtain ⟨h1, h2, h3, h4⟩ := h
  exact ⟨heap_setCell_same w' f o cs t v h1, by rw [← h2]; simp, fun b hb => (heap_setCell_other _ _ _ _ (by exact hb)).trans (h3 b hb), fun B hB => (h4 B hB).setCell (by exact hB) v⟩
theorem Tick.cell {w w' : World} {f : Nat} {t : TypeId} {cs : Array Value} (h : Tick w w' f t cs) (o : Nat) : w'.cell? ⟨f, o, none⟩ = cs[o]? := cell_of_row w' f o cs t (0, 0) h.1
theorem Tick.frozen {w w' : World} {f : Nat} {t : TypeId} {cs : Array Value} (h : Tick w w' f t cs) (o : Nat) : w'.frozen? ⟨f, o, none⟩ = false := frozen_of_row w' f o cs t h.1
theorem Turns.of_tick {w w' : World} {f : Nat} {t : TypeId} {cs : Array Value} (h : Tick w w' f t cs) : Turns (fun k => k = f) w w' := by
  obtain ⟨h1, h2, h3, h4⟩ := h
  have hb := h4 0 (Nat.zero_le _)
  exact ⟨hb.os, hb.tape, hb.output, by omega, fun k _ hk => h3 k hk⟩
theorem turns_cell {G : Nat} {a w : World} (h : Turns (fun j => j = G) a w) (o : Nat) (v : Value) : Turns (fun j => j = G) a (w.setCell ⟨G, o, none⟩ v) :=
  h.trans ⟨rfl, rfl, rfl, by simp, fun k _ hn => heap_setCell_other _ _ _ _ (by exact hn)⟩
theorem Bytes.quiet {w w' : World} {v : Value} {bs : List (BitVec 8)} (h : Bytes w v bs) (t : Turns (fun _ => False) w w') : Bytes w' v bs := h.turns t fun _ _ _ _ x => x
end Go.Proofs.Ytpgligfolecieaa

/-
  Copies of bytes, and of entries.
-/
namespace Go.Proofs.Ytpgligfolecieaa
open Go.RowKit
set_option maxRecDepth 100000
set_option maxHeartbeats 4000000
theorem nil_eql (a : Option Addr) (n c : Nat) (w : World) : (binOp .eql 26 (.slice a n c) (.slice none 0 0)).run Try.prog w = .ok (.bool a.isNone) w := by
  cases a <;> kernel_rfl
theorem clone_any (a : Option Addr) (n c : Nat) (bs : List (BitVec 8)) (w : World) (h : Bytes w (.slice a n c) bs) (hn : n ≤ 1000000) :
    Calls Try.prog 50 #[.slice a n c] w fun e w' => ∃ a' c', e = .returned (.slice a' n c') ∧ Bytes w' (.slice a' n c') bs ∧ (∀ x, a' = some x → w.heap.size ≤ x.block ∧ x.block < w'.heap.size) ∧ Below w.heap.size w w' := by
  have hl := h.len
  cases a with
  | none =>
    obtain rfl : n = 0 := by
      rcases Nat.eq_zero_or_pos n with h0 | h0
      · exact h0
      · obtain ⟨_, _, e⟩ := h.addr h0; cases e
    obtain rfl : bs = [] := List.eq_nil_of_length_eq_zero hl.symm
    clear h hl
    have he : (binOp .eql 26 (.slice none 0 c) (.slice none 0 0)).run Try.prog w = .ok (.bool true) w := nil_eql none 0 c w
    go_enter Try.func50, Try.ntmps50
    go_wp2_with fail
    go_ret
    exact ⟨none, 0, rfl, Bytes.empty _, fun x e => (by cases e), Below.refl _ _⟩
  | some ad =>
    have hb : Below w.heap.size w (w.alloc (.cells #[] 5)) := (Below.refl _ _).alloc (Nat.le_refl _) _
    obtain ⟨g, c2, w2, hr, hg, hrow, hb2, hc, _⟩ := append_bytes2 (w.alloc (.cells #[] 5)) w.heap.size (some ⟨w.heap.size, 0, none⟩) 0 0 [] rfl (.slice (some ad) n c) bs n hl (h.below hb) (by simp)
      (.inr ⟨_, rfl, Nat.le_refl _, Nat.le_refl _, #[], heap_alloc_new w _, Nat.le_refl _, fun k hk => by simp [cellsOf] at hk⟩) (by omega)
    rw [Nat.zero_add] at hr hc
    rw [List.nil_append] at hrow
    have HR := hide hr
    have HW := hide (RowB.bytes (c' := c2) hrow hl)
    have HB := hide (hb.trans hb2)
    have HG := hide (show g < w2.heap.size by obtain ⟨cs, h1, _⟩ := hrow; exact lt_of_heap h1)
    clear hr hrow hb hb2 h hl
    have he : (binOp .eql 26 (.slice (some ad) n c) (.slice none 0 0)).run Try.prog w = .ok (.bool false) w := nil_eql (some ad) n c w
    go_enter Try.func50, Try.ntmps50
    go_wp2_with (at_builtin; refine wpList_append_run rfl _ _ 26 rfl (.slice (some ⟨w.heap.size, 0, none⟩) 0 0) (.slice (some ad) n c) rfl rfl _ _ (HR.out _) ?_)
    go_ret
    exact ⟨_, c2, rfl, HW.out, fun x e => by cases e; exact ⟨hg, HG.out⟩, HB.out⟩
theorem info29 : (Try.prog.info? 29).map (·.size) = some 4 := by kernel_rfl
theorem cloneE_any (ka va : Option Addr) (kn kc vn vc s : Nat) (k : Int) (key val : List (BitVec 8)) (w : World) (h1 : Bytes w (.slice ka kn kc) key) (h2 : Bytes w (.slice va vn vc) val) (l1 : kn ≤ 1000000) (l2 : vn ≤ 1000000) :
    Calls Try.prog 70 #[.agg #[.slice ka kn kc, .int .u64 s, .int .i64 k, .slice va vn vc]] w fun e w' => ∃ ka' kc' va' vc', e = .returned (.agg #[.slice ka' kn kc', .int .u64 s, .int .i64 k, .slice va' vn vc']) ∧ Bytes w' (.slice ka' kn kc') key ∧ Bytes w' (.slice va' vn vc') val ∧
      (∀ x, ka' = some x → w.heap.size ≤ x.block ∧ x.block < w'.heap.size) ∧ (∀ x, va' = some x → w.heap.size ≤ x.block ∧ x.block < w'.heap.size) ∧ Below w.heap.size w w' := by
  have ha : Turns (fun _ => False) w ((w.alloc (.cells #[.slice ka kn kc, .int .u64 s, .int .i64 k, .slice va vn vc] 29)).alloc (.cells #[.slice none 0 0, .int .u64 0, .int .i64 0, .slice none 0 0] 29)) := ((Turns.refl _ w).alloc _).alloc _
  have r0 := heap_keep ((Below.refl _ (w.alloc (.cells #[.slice ka kn kc, .int .u64 s, .int .i64 k, .slice va vn vc] 29))).alloc (Nat.le_refl _) (.cells #[.slice none 0 0, .int .u64 0, .int .i64 0, .slice none 0 0] 29)) (heap_alloc_new w (.cells #[.slice ka kn kc, .int .u64 s, .int .i64 k, .slice va vn vc] 29))
  have r1 := heap_alloc_new (w.alloc (.cells #[.slice ka kn kc, .int .u64 s, .int .i64 k, .slice va vn vc] 29)) (.cells #[.slice none 0 0, .int .u64 0, .int .i64 0, .slice none 0 0] 29)
  rw [show (w.alloc (.cells #[.slice ka kn kc, .int .u64 s, .int .i64 k, .slice va vn vc] 29)).heap.size = w.heap.size + 1 by simp] at r1
  have hsz : ((w.alloc (.cells #[.slice ka kn kc, .int .u64 s, .int .i64 k, .slice va vn vc] 29)).alloc (.cells #[.slice none 0 0, .int .u64 0, .int .i64 0, .slice none 0 0] 29)).heap.size = w.heap.size + 2 := by simp
  have HSZ := hide hsz
  have HA := hide ha
  have R0 := hide r0
  have R1 := hide r1
  have H1 := hide h1
  have H2 := hide h2
  clear ha r0 r1 h1 h2 hsz
  go_enter Try.func70, Try.ntmps70
  go_wp2_with fail
  generalize (w.alloc (.cells #[.slice ka kn kc, .int .u64 s, .int .i64 k, .slice va vn vc] 29)).alloc (.cells #[.slice none 0 0, .int .u64 0, .int .i64 0, .slice none 0 0] 29) = w0 at *
  generalize hg : w.heap.size = g at *
  have a0 : w0.cell? ⟨g, 0, none⟩ = some (.slice ka kn kc) := cell_of_row w0 g 0 _ 29 (0, 0) R0.out
  have a1 : w0.cell? ⟨g, 1, none⟩ = some (.int .u64 s) := cell_of_row w0 g 1 _ 29 (0, 0) R0.out
  have a2 : w0.cell? ⟨g, 2, none⟩ = some (.int .i64 k) := cell_of_row w0 g 2 _ 29 (0, 0) R0.out
  have a3 : w0.cell? ⟨g, 3, none⟩ = some (.slice va vn vc) := cell_of_row w0 g 3 _ 29 (0, 0) R0.out
  have C1 := hide (clone_any ka kn kc key w0.drew ((H1.out.quiet HA.out).quiet (Turns.refl _ w0).drew) l1)
  go_region_with (first
    | (go_at_call_of 50 (Value.slice ka kn kc); refine C1.out.mono ?_; rintro e w1 ⟨ka', kc', rfl, hk1, hk2, b1⟩; have t1 := (Turns.refl (fun _ => False) w0).drew.trans (Turns.of_below b1 (fun _ => False)); have a3 := t1.cell a3 (fun x => x); have T1 := hide t1; have HK1 := hide hk1; have HK2 := hide hk2; clear t1 hk1 hk2 b1)
    | (go_at_call_of 50 (Value.slice va vn vc); refine (clone_any va vn vc val w1 ((H2.out.quiet HA.out).quiet T1.out) l2).mono ?_; rintro e w2 ⟨va', vc', rfl, hv1, hv2, b2⟩; have t2 := T1.out.trans (Turns.of_below b2 (fun _ => False)); have r2 := t2.heap R0.out (fun x => x); have z0 := frozen_of_row w2 g 0 _ 29 r2; have z3 := frozen_of_row w2 g 3 _ 29 r2; have c0 := t2.cell a0 (fun x => x); have c1 := t2.cell a1 (fun x => x); have c2 := t2.cell a2 (fun x => x); have c3 := cell_of_row w2 g 3 _ 29 (0, 0) r2; have HV1 := hide hv1; have HV2 := hide hv2; have T2 := hide t2; have B2 := hide b2; have R2 := hide r2; clear t2 hv1 hv2 b2 r2))
  all_goals have r3 := T2.out.heap R1.out (fun x => x)
  all_goals have y0 := frozen_of_row w2 (g + 1) 0 _ 29 r3
  all_goals have y1 := frozen_of_row w2 (g + 1) 1 _ 29 r3
  all_goals have y2 := frozen_of_row w2 (g + 1) 2 _ 29 r3
  all_goals have y3 := frozen_of_row w2 (g + 1) 3 _ 29 r3
  all_goals have x0 := cell_of_row w2 (g + 1) 0 _ 29 (0, 0) r3
  all_goals have x1 := cell_of_row w2 (g + 1) 1 _ 29 (0, 0) r3
  all_goals have x2 := cell_of_row w2 (g + 1) 2 _ 29 (0, 0) r3
  all_goals have x3 := cell_of_row w2 (g + 1) 3 _ 29 (0, 0) r3
  all_goals clear r3
  all_goals go_wp2_with fail
  all_goals
    have k1 := (Tick.refl R2.out).set 0 (.slice ka' kn kc')
    have k2 := k1.set 3 (.slice va' vn vc')
    have r3 := (k2.2.2.1 (g + 1) (by omega)).trans (T2.out.heap R1.out (fun x => x))
    have k3 := (((((Tick.refl r3).set 0 (.slice ka' kn kc')).set 1 (.int .u64 s)).set 2 (.int .i64 k)).set 3 (.slice va' vn vc'))
    have u2 := Turns.of_tick k2
    have u3 := Turns.of_tick k3
    have hsz2 : w0.heap.size ≤ w2.heap.size := T2.out.size
    have hw0 := HSZ.out
    have hlast : Turns (fun _ => False) w _ := ((HA.out.trans T2.out).andThen u2 (fun j hj e => by omega)).andThen u3 (fun j hj e => by omega)
    refine bodyPost_ret (v := .agg #[.slice ka' kn kc', .int .u64 s, .int .i64 k, .slice va' vn vc']) ?_ rfl ?_
    · exact results_cell_row Try.results70 _ _ _ _ _ _ _ rfl k3.1 Try.underlying29 rfl info29
    · have hk : Bytes w2 (.slice ka' kn kc') key := HK1.out.below B2.out
      refine ⟨ka', kc', va', vc', rfl, ?_, ?_, fun x e => ?_, fun x e => ?_, hlast.below (by omega) (fun _ x => x.elim)⟩
      · refine (hk.turns u2 fun a n c e => ?_).turns u3 fun a n c e => ?_
        · cases e; have := (HK2.out _ rfl).1; show ¬ _ = g; have h9 : w0.heap.size ≤ a.block := this; omega
        · cases e; have := (HK2.out _ rfl).1; show ¬ _ = g + 1; have h9 : w0.heap.size ≤ a.block := this; omega
      · refine (HV1.out.turns u2 fun a n c e => ?_).turns u3 fun a n c e => ?_
        · cases e; have := (HV2.out _ rfl).1; have h8 := T1.out.size; show ¬ _ = g; omega
        · cases e; have := (HV2.out _ rfl).1; have h8 := T1.out.size; show ¬ _ = g + 1; omega
      · have h1 := HK2.out x e
        have h9 : w0.heap.size ≤ x.block := h1.1
        have h8 := B2.out.size
        have h7 := k2.2.1
        have h6 := k3.2.1
        omega
      · have h1 := HV2.out x e
        have h8 := T1.out.size
        have h7 := k2.2.1
        have h6 := k3.2.1
        omega
end Go.Proofs.Ytpgligfolecieaa

/-
  Entries and where their bytes lie; rows in order.
-/
namespace Go.Proofs.Ytpgligfolecieaa
open Go.RowKit
structure Ent where
  key : List (BitVec 8)
  seq : Nat
  kind : Int
  val : List (BitVec 8)
def Ent.en (e : Ent) : En := (e.key, e.seq)
/-- An entry and where its bytes lie. -/
structure Tow where
  ka : Option Addr
  kc : Nat
  va : Option Addr
  vc : Nat
  e : Ent
def Tow.kv (x : Tow) : Value := .slice x.ka x.e.key.length x.kc
def Tow.vv (x : Tow) : Value := .slice x.va x.e.val.length x.vc
def Tow.ent (x : Tow) : Array Value := #[x.kv, .int .u64 (x.e.seq : Nat), .int .i64 x.e.kind, x.vv]
/-- A block that an entry's bytes lie in. -/
def Tow.bytesIn (x : Tow) (q : Nat) : Prop := (∃ a : Addr, x.ka = some a ∧ a.block = q) ∨ ∃ a : Addr, x.va = some a ∧ a.block = q
theorem bytes_keep {S : Nat → Prop} {w w' : World} {a : Option Addr} {n c : Nat} {bs : List (BitVec 8)} (h : Bytes w (.slice a n c) bs) (tt : Turns S w w') (hS : ∀ x : Addr, a = some x → ¬ S x.block) : Bytes w' (.slice a n c) bs :=
  h.turns tt fun x n c e => by cases e; exact hS x rfl
def inOrd : List Ent → Bool
  | x :: y :: r => decide (cmpE x.en y.en < 0) && inOrd (y :: r)
  | _ => true
theorem inOrd_iff : ∀ es : List Ent, inOrd es = true ↔ ∀ j x y, es[j]? = some x → es[j + 1]? = some y → cmpE x.en y.en < 0
  | [] => by simp [inOrd]
  | [x] => by simp [inOrd]
  | x :: y :: r => by
    have ih := inOrd_iff (y :: r)
    simp only [inOrd, Bool.and_eq_true, decide_eq_true_eq, ih]
    constructor
    · rintro ⟨h1, h2⟩ j a b ha hb
      cases j with
      | zero =>
        obtain rfl : x = a := by simpa using ha
        obtain rfl : y = b := by simpa using hb
        exact h1
      | succ j => exact h2 j a b (by simpa using ha) (by simpa using hb)
    · intro h
      exact ⟨h 0 x y rfl rfl, fun j a b ha hb => h (j + 1) a b (by simpa using ha) (by simpa using hb)⟩
theorem wrapI (z : Int) (h0 : -9223372036854775808 ≤ z) (h1 : z < 9223372036854775808) : IntKind.i64.wrap z = z := by rw [IntKind.wrap_i64]; omega
def ents (l : List Tow) : List Ent := l.map (·.e)
theorem ents_at {l : List Tow} {k : Nat} (h : k < l.length) : (ents l)[k]? = some l[k].e := by simp [ents, h]
theorem belowN {B : Nat} {a w : World} (h : Below B a w) (n : Nat) : Below B a (w.drewN n) := ⟨h.os, h.tape, h.output, h.size, h.block⟩
end Go.Proofs.Ytpgligfolecieaa

/-
  A table that is not there, or that nobody made.
-/
namespace Go.Proofs.Ytpgligfolecieaa
open Go.RowKit
set_option maxRecDepth 100000
set_option maxHeartbeats 4000000
def zeroE : Array Value := #[.slice none 0 0, .int .u64 0, .int .i64 0, .slice none 0 0]
/-- The same entries are found the same. -/
theorem entry_same (ka va ka' va' : Option Addr) (kn kc vn vc kc' vc' s : Nat) (k : Int) (key val : List (BitVec 8)) (w : World) (h1 : Bytes w (.slice ka kn kc) key) (h2 : Bytes w (.slice va vn vc) val) (h3 : Bytes w (.slice ka' kn kc') key) (h4 : Bytes w (.slice va' vn vc') val) (hk : kn ≤ 1000000) (hv : vn ≤ 1000000) :
    Calls Try.prog 43 #[.agg #[.slice ka kn kc, .int .u64 (s : Nat), .int .i64 k, .slice va vn vc], .agg #[.slice ka' kn kc', .int .u64 (s : Nat), .int .i64 k, .slice va' vn vc']] w fun e w' => e = .returned (.bool true) ∧ Below w.heap.size w w' := by
  have t0 : Turns (fun _ => False) w ((w.alloc (.cells #[.slice ka kn kc, .int .u64 (s : Nat), .int .i64 k, .slice va vn vc] 29)).alloc (.cells #[.slice ka' kn kc', .int .u64 (s : Nat), .int .i64 k, .slice va' vn vc'] 29)) := ((Turns.refl _ w).alloc _).alloc _
  have HB := hide (t0.below (B := w.heap.size) (Nat.le_refl _) (fun _ x => x.elim))
  have H1 := hide (h1.quiet t0)
  have H2 := hide (h2.quiet t0)
  have H3 := hide (h3.quiet t0)
  have H4 := hide (h4.quiet t0)
  have r0 := heap_keep ((Below.refl _ (w.alloc (.cells #[.slice ka kn kc, .int .u64 (s : Nat), .int .i64 k, .slice va vn vc] 29))).alloc (Nat.le_refl _) (.cells #[.slice ka' kn kc', .int .u64 (s : Nat), .int .i64 k, .slice va' vn vc'] 29)) (heap_alloc_new w (.cells #[.slice ka kn kc, .int .u64 (s : Nat), .int .i64 k, .slice va vn vc] 29))
  have r1 := heap_alloc_new (w.alloc (.cells #[.slice ka kn kc, .int .u64 (s : Nat), .int .i64 k, .slice va vn vc] 29)) (.cells #[.slice ka' kn kc', .int .u64 (s : Nat), .int .i64 k, .slice va' vn vc'] 29)
  rw [show (w.alloc (.cells #[.slice ka kn kc, .int .u64 (s : Nat), .int .i64 k, .slice va vn vc] 29)).heap.size = w.heap.size + 1 by simp] at r1
  have R0 := hide r0
  have R1 := hide r1
  clear h1 h2 h3 h4 t0 r0 r1
  go_enter Try.func43, Try.ntmps43
  go_upto_region 1 with (fail)
  generalize (w.alloc (.cells #[.slice ka kn kc, .int .u64 (s : Nat), .int .i64 k, .slice va vn vc] 29)).alloc (.cells #[.slice ka' kn kc', .int .u64 (s : Nat), .int .i64 k, .slice va' vn vc'] 29) = w0 at *
  generalize hg0 : w.heap.size = g at *
  have a0 : w0.cell? ⟨g, 0, none⟩ = some (.slice ka kn kc) := cell_of_row w0 g 0 _ 29 (0, 0) R0.out
  have a1 : w0.cell? ⟨g, 1, none⟩ = some (.int .u64 (s : Nat)) := cell_of_row w0 g 1 _ 29 (0, 0) R0.out
  have a2 : w0.cell? ⟨g, 2, none⟩ = some (.int .i64 k) := cell_of_row w0 g 2 _ 29 (0, 0) R0.out
  have a3 : w0.cell? ⟨g, 3, none⟩ = some (.slice va vn vc) := cell_of_row w0 g 3 _ 29 (0, 0) R0.out
  have b0 : w0.cell? ⟨g + 1, 0, none⟩ = some (.slice ka' kn kc') := cell_of_row w0 (g + 1) 0 _ 29 (0, 0) R1.out
  have b1 : w0.cell? ⟨g + 1, 1, none⟩ = some (.int .u64 (s : Nat)) := cell_of_row w0 (g + 1) 1 _ 29 (0, 0) R1.out
  have b2 : w0.cell? ⟨g + 1, 2, none⟩ = some (.int .i64 k) := cell_of_row w0 (g + 1) 2 _ 29 (0, 0) R1.out
  have b3 : w0.cell? ⟨g + 1, 3, none⟩ = some (.slice va' vn vc') := cell_of_row w0 (g + 1) 3 _ 29 (0, 0) R1.out
  go_wp2_with fail
  refine (bytes_any ka ka' kn kn kc kc' key key w0 H1.out H3.out (by omega)).mono ?_
  rintro e w1 ⟨rfl, m1, rfl⟩
  rw [show decide (key = key) = true by simp]
  go_wp2_with fail
  refine (bytes_any va va' vn vn vc vc' val val _ (H2.out.drewN m1) (H4.out.drewN m1) (by omega)).mono ?_
  rintro e w2 ⟨rfl, m2, rfl⟩
  rw [show decide (val = val) = true by simp]
  go_wp2_with fail
  go_ret
  exact ⟨rfl, by rw [hg0]; exact belowN HB.out (m1 + m2)⟩
end Go.Proofs.Ytpgligfolecieaa
