import Derived.Test.YtjklbhdhjfifhaaGreatM16
import Derived.Lib.BytesEntry
import Derived.Laws.BytesArg
import Derived.Laws.Externs
/-
  How bytes, and entries, are compared.
-/
namespace Go.Proofs.YtjklbhdhjfifhaaGreat
open Go.RowKit
set_option maxRecDepth 100000
set_option maxHeartbeats 4000000
def nums (bs : List (BitVec 8)) : List Int := bs.map fun b => (b.toNat : Int)
/-- Bytes as the library's words have them. -/
def u8s (bs : List (BitVec 8)) : List UInt8 := Lib.bytesOf (nums bs)
theorem bytesOf_any {P : Program} {w : World} {a : Option Addr} {n c : Nat} {bs : List (BitVec 8)} (h : Bytes w (.slice a n c) bs) : (Extern.Bytes.bytesOf (.slice a n c)).run P w = .ok ⟨(u8s bs).toArray⟩ w := by
  have hl := h.len
  cases a with
  | none =>
    obtain rfl : bs = [] := by
      rcases Nat.eq_zero_or_pos n with h0 | h0
      · exact List.eq_nil_of_length_eq_zero (by omega)
      · obtain ⟨_, _, e⟩ := h.addr h0; cases e
    rfl
  | some ad =>
    rcases Nat.eq_zero_or_pos n with h0 | h0
    · subst h0
      obtain rfl : bs = [] := List.eq_nil_of_length_eq_zero hl.symm
      rfl
    · obtain ⟨b, off, e⟩ := h.addr h0
      cases e
      have := Lib.run_loadBytesX (P := P) w (nums bs) ⟨b, off, none⟩ .empty (fun j x hj => by
        have hj' : j < bs.length := by simpa [nums] using (List.getElem?_eq_some_iff.1 hj).1
        rw [Go.WideShapes.add_plain, h.at j hj']
        have : (bs[j].toNat : Int) = x := by simpa [nums, hj'] using hj
        rw [← this]
        simp [List.getD, hj'])
      rw [show (nums bs).length = n by simp [nums, hl]] at this
      rw [show Extern.Bytes.bytesOf (.slice (some ⟨b, off, none⟩) n c) = Extern.Bytes.loadBytes ⟨b, off, none⟩ n .empty from rfl, this]
      congr 1
      apply ByteArray.ext
      show (#[] : Array UInt8) ++ (u8s bs).toArray = (u8s bs).toArray
      simp
def cmpB (a b : List (BitVec 8)) : Int := Lib.compareBytes (u8s a) (u8s b)
theorem compareB_any (a a' : Option Addr) (n n' c c' : Nat) (x y : List (BitVec 8)) (w : World) (h : Bytes w (.slice a n c) x) (h' : Bytes w (.slice a' n' c') y) :
    Calls Tryz.prog 131 #[.slice a n c, .slice a' n' c'] w fun e w' => e = .returned (.int .i64 (cmpB x y)) ∧ w' = w := by
  have hcf : (callFunc 167 #[.slice a n c, .slice a' n' c']).run Tryz.prog w = .ok (.value (.int .i64 (cmpB x y))) w := by
    rw [run_callFunc_extern Tryz.func167 (by kernel_rfl) (by kernel_rfl) (by kernel_rfl) (e := Extern.BytealgCompare.compare) (by kernel_rfl)]
    have : (Extern.BytealgCompare.compare #[.slice a n c, .slice a' n' c']).run Tryz.prog w = .ok (.int .i64 (cmpB x y)) w := by
      change Sem.run Tryz.prog (do pure (goInt (Extern.BytealgCompare.cmp (← Extern.Bytes.bytesOf (.slice a n c)) (← Extern.Bytes.bytesOf (.slice a' n' c'))))) w = _
      simp only [Sem.run_bind, bytesOf_any h, bytesOf_any h', Sem.run_pure, Result.andThen]
      rw [Lib.cmp_eq]
      rfl
    rw [this]
    rfl
  clear h h'
  generalize cmpB x y = z at *
  go_enter Tryz.func131, Tryz.ntmps131
  go_wp2_with fail
  go_ret
  exact ⟨rfl, rfl⟩
theorem conv_any {w : World} {a : Option Addr} {n c : Nat} {bs : List (BitVec 8)} (h : Bytes w (.slice a n c) bs) : (convert 28 9 (.slice a n c)).run Tryz.prog w = .ok (.string ⟨(u8s bs).toArray⟩) w := by
  have hl := h.len
  rcases Nat.eq_zero_or_pos n with h0 | h0
  · subst h0
    obtain rfl : bs = [] := List.eq_nil_of_length_eq_zero hl.symm
    cases a with
    | none => exact run_convert_bytes_nil w 28 5 Tryz.underlying28 Tryz.underlying5 0 c 9 Tryz.underlying9
    | some ad =>
      rw [run_convert_bytes_string w 28 9 5 _ 0 c Tryz.underlying28 Tryz.underlying5 Tryz.underlying9]
      simp [Conv.bytesToString, loadCells]
      rfl
  · obtain ⟨b, off, rfl⟩ := h.addr h0
    have := run_convert_bytes_arg (P := Tryz.prog) w 28 5 Tryz.underlying28 Tryz.underlying5 b off n c (nums bs) (by simp [nums, hl]) (fun i hi => by
      have hi' : i < bs.length := by omega
      rw [h.at i hi']
      simp [nums, List.getD, hi']) 9 Tryz.underlying9
    rw [this]
    rfl
theorem cmp_swap : ∀ a b : List UInt8, Lib.compareBytes b a = - Lib.compareBytes a b
  | [], [] => rfl
  | [], _ :: _ => rfl
  | _ :: _, [] => rfl
  | a :: l1, b :: l2 => by
    have ih := cmp_swap l1 l2
    simp only [Lib.compareBytes]
    by_cases h1 : a < b
    · have h2 : ¬ b < a := UInt8.lt_asymm h1
      simp [h1, h2]
    · by_cases h2 : b < a
      · simp [h1, h2]
      · simp [h1, h2, ih]
theorem cmp_zero : ∀ a b : List UInt8, Lib.compareBytes a b = 0 ↔ a = b
  | [], [] => by simp [Lib.compareBytes]
  | [], _ :: _ => by simp [Lib.compareBytes]
  | _ :: _, [] => by simp [Lib.compareBytes]
  | a :: l1, b :: l2 => by
    have ih := cmp_zero l1 l2
    simp only [Lib.compareBytes]
    by_cases h1 : a < b
    · have : a ≠ b := fun e => UInt8.lt_irrefl b (e ▸ h1)
      simp [h1, this]
    · by_cases h2 : b < a
      · have : a ≠ b := fun e => UInt8.lt_irrefl b (e ▸ h2)
        simp [h1, h2, this]
      · have : a = b := UInt8.le_antisymm (UInt8.not_lt.1 h2) (UInt8.not_lt.1 h1)
        simp [ih, this]
theorem cmp_vals : ∀ a b : List UInt8, Lib.compareBytes a b = -1 ∨ Lib.compareBytes a b = 0 ∨ Lib.compareBytes a b = 1
  | [], [] => by simp [Lib.compareBytes]
  | [], _ :: _ => by simp [Lib.compareBytes]
  | _ :: _, [] => by simp [Lib.compareBytes]
  | a :: l1, b :: l2 => by
    have ih := cmp_vals l1 l2
    simp only [Lib.compareBytes]
    repeat' split
    all_goals simp_all
theorem cmp_lt : ∀ a b c : List UInt8, Lib.compareBytes a b = -1 → Lib.compareBytes b c = -1 → Lib.compareBytes a c = -1
  | [], [], c => by simp [Lib.compareBytes]
  | [], _ :: _, [] => by simp [Lib.compareBytes]
  | [], _ :: _, _ :: _ => by simp [Lib.compareBytes]
  | _ :: _, [], _ => by simp [Lib.compareBytes]
  | _ :: _, _ :: _, [] => by simp [Lib.compareBytes]
  | a :: l1, b :: l2, c :: l3 => by
    have ih := cmp_lt l1 l2 l3
    simp only [Lib.compareBytes]
    intro h1 h2
    by_cases x1 : a < b
    · by_cases x2 : b < c
      · simp [UInt8.lt_trans x1 x2]
      · by_cases x3 : c < b
        · simp [x2, x3] at h2
        · have : b = c := UInt8.le_antisymm (UInt8.not_lt.1 x3) (UInt8.not_lt.1 x2)
          subst this
          simp [x1]
    · by_cases x1' : b < a
      · simp [x1, x1'] at h1
      · have : a = b := UInt8.le_antisymm (UInt8.not_lt.1 x1') (UInt8.not_lt.1 x1)
        subst this
        by_cases x2 : a < c
        · simp [x2]
        · by_cases x3 : c < a
          · simp [x2, x3] at h2
          · simp only [x1, x2, x3, if_false] at h1 h2 ⊢
            exact ih h1 h2
theorem u8s_inj {a b : List (BitVec 8)} (h : u8s a = u8s b) : a = b := by
  induction a generalizing b with
  | nil => cases b with
    | nil => rfl
    | cons y r => simp [u8s, nums, Lib.bytesOf] at h
  | cons x l ih => cases b with
    | nil => simp [u8s, nums, Lib.bytesOf] at h
    | cons y r =>
      simp only [u8s, nums, Lib.bytesOf, List.map_cons, List.cons.injEq, Int.toNat_natCast] at h
      have hx : x = y := by
        have := congrArg UInt8.toNat h.1
        have h1 := x.isLt
        have h2 := y.isLt
        simp only [UInt8.toNat_ofNat'] at this
        exact BitVec.eq_of_toNat_eq (by omega)
      rw [hx, ih h.2]
/-- An entry's key and number. -/
abbrev En := List (BitVec 8) × Nat
def cmpE (x y : En) : Int := if cmpB x.1 y.1 ≠ 0 then cmpB x.1 y.1 else if y.2 < x.2 then -1 else if x.2 < y.2 then 1 else 0
theorem cmpB_swap (a b : List (BitVec 8)) : cmpB b a = - cmpB a b := cmp_swap _ _
theorem cmpB_zero (a b : List (BitVec 8)) : cmpB a b = 0 ↔ a = b := (cmp_zero _ _).trans ⟨u8s_inj, fun e => by rw [e]⟩
theorem cmpB_vals (a b : List (BitVec 8)) : cmpB a b = -1 ∨ cmpB a b = 0 ∨ cmpB a b = 1 := cmp_vals _ _
theorem cmpB_lt {a b c : List (BitVec 8)} (h : cmpB a b = -1) (k : cmpB b c = -1) : cmpB a c = -1 := cmp_lt _ _ _ h k
theorem cmpE_swap (x y : En) : cmpE y x = - cmpE x y := by
  unfold cmpE
  rw [cmpB_swap x.1 y.1]
  have := cmpB_vals x.1 y.1
  generalize cmpB x.1 y.1 = z at *
  repeat' split
  all_goals omega
theorem cmpE_zero (x y : En) : cmpE x y = 0 ↔ x.1 = y.1 ∧ x.2 = y.2 := by
  unfold cmpE
  rw [← cmpB_zero]
  generalize cmpB x.1 y.1 = z at *
  repeat' split
  all_goals omega
theorem cmpE_trans (x y z : En) (h1 : cmpE x y ≤ 0) (h2 : cmpE y z ≤ 0) : cmpE x z ≤ 0 := by
  unfold cmpE at *
  have v1 := cmpB_vals x.1 y.1
  have v2 := cmpB_vals y.1 z.1
  have v3 := cmpB_vals x.1 z.1
  rcases v1 with e1 | e1 | e1
  · rcases v2 with e2 | e2 | e2
    · rw [cmpB_lt e1 e2, if_pos (by decide)]; decide
    · rw [(cmpB_zero _ _).1 e2] at e1
      rw [e1, if_pos (by decide)]; decide
    · rw [e2, if_pos (by decide)] at h2; exact absurd h2 (by decide)
  · have ex := (cmpB_zero _ _).1 e1
    rw [ex] at h1 ⊢
    rcases v2 with e2 | e2 | e2
    · rw [e2, if_pos (by decide)]; decide
    · have ez := (cmpB_zero _ _).1 e2
      rw [ez] at h1 h2 ⊢
      have e0 : cmpB z.1 z.1 = 0 := (cmpB_zero _ _).2 rfl
      rw [e0] at h1 h2 ⊢
      simp only [ne_eq, not_true, if_false] at h1 h2 ⊢
      repeat' split at h1
      all_goals repeat' split at h2
      all_goals repeat' split
      all_goals omega
    · rw [e2, if_pos (by decide)] at h2; exact absurd h2 (by decide)
  · rw [e1, if_pos (by decide)] at h1; exact absurd h1 (by decide)

def orN (x y : Int) : Int := if x ≠ 0 then x else y
def cmpN (x y : Nat) : Int := if x < y then -1 else if y < x then 1 else 0
theorem or_two (b : Nat) (x y : Int) (w : World) (h0 : w.cell? ⟨b, 0, none⟩ = some (.int .i64 x)) (h1 : w.cell? ⟨b, 1, none⟩ = some (.int .i64 y)) :
    Calls Tryz.prog 130 #[.slice (some ⟨b, 0, none⟩) 2 2] w fun e w' => e = .returned (.int .i64 (orN x y)) ∧ w' = w := by
  have H0 := hide h0
  have H1 := hide h1
  clear h0 h1
  go_enter Tryz.func130, Tryz.ntmps130
  go_wp2_with fail
  go_loopw [8] (fun i wr => ∃ k : Nat, i = .int .i64 (k : Nat) ∧ k ≤ 2 ∧ (0 < k → x = 0) ∧ (1 < k → y = 0) ∧ wr = w) (fun i _ => 2 - (intOf i).toNat)
  case atStart => exact ⟨0, rfl, by decide, fun h => absurd h (by decide), fun h => absurd h (by decide), rfl⟩
  case round =>
    obtain ⟨k, rfl, hk, hx, hy, hw⟩ := hrel
    subst hw
    have HX := hide hx
    have HY := hide hy
    clear hx hy
    have hcell : k < 2 → ∃ v : Int, wr.cell? ⟨b, k, none⟩ = some (.int .i64 v) ∧ (k = 0 → v = x) ∧ (k = 1 → v = y) := by
      intro h
      have : k = 0 ∨ k = 1 := by omega
      rcases this with rfl | rfl
      · exact ⟨x, H0.out, fun _ => rfl, fun e => by omega⟩
      · exact ⟨y, H1.out, fun e => by omega, fun _ => rfl⟩
    by_cases hkn : k < 2
    · obtain ⟨v, hc, hv0, hv1⟩ := hcell hkn
      have HV0 := hide hv0
      have HV1 := hide hv1
      have i1 : (k : Int) < (2 : Int) := by omega
      have i0 : (0 : Int) ≤ (k : Int) := by omega
      clear hcell hv0 hv1
      by_cases hv : v = 0
      · subst hv
        go_wp2_with fail
        go_roundw
        case rel =>
          refine ⟨k + 1, by go_num, by omega, fun _ => ?_, fun h => ?_, by trivial⟩
          · by_cases e : k = 0
            · exact (HV0.out e).symm
            · exact HX.out (by omega)
          · exact (HV1.out (by omega)).symm
        case measure => simp [intOf]; omega
      · go_wp2_with fail
        go_ret
        refine ⟨congrArg Ending.returned (congrArg (Value.int IntKind.i64) ?_), rfl⟩
        unfold orN
        by_cases e : k = 0
        · have := HV0.out e
          subst this
          rw [if_pos hv]
        · have h1 := HX.out (by omega)
          have h2 := HV1.out (by omega)
          rw [if_neg (by simpa using h1), h2]
    · obtain rfl : k = 2 := by omega
      have e1 := HX.out (by decide)
      have e2 := HY.out (by decide)
      go_wp2_with fail
      go_ret
      refine ⟨congrArg Ending.returned (congrArg (Value.int IntKind.i64) ?_), rfl⟩
      unfold orN
      rw [if_neg (by simpa using e1), e2]
theorem cmp64_any (x y : Nat) (w : World) : Calls Tryz.prog 132 #[.int .u64 x, .int .u64 y] w fun e w' => e = .returned (.int .i64 (cmpN x y)) ∧ w' = w := by
  go_enter Tryz.func132, Tryz.ntmps132
  go_wp2
  all_goals go_ret
  all_goals refine ⟨congrArg Ending.returned (congrArg (Value.int IntKind.i64) ?_), rfl⟩
  · rw [cmpN, if_pos (by omega)]
  · rw [cmpN, if_neg (by omega), if_pos (by omega)]
  · rw [cmpN, if_neg (by omega), if_neg (by omega)]
theorem alloc_keep {w : World} {a : Addr} {v : Value} (h : w.cell? a = some v) (o : Obj) : (w.alloc o).cell? a = some v :=
  (((Below.refl w.heap.size w).alloc (Nat.le_refl _) o).cell (block_lt_of_cell h)).trans h
theorem compare_any (ka kb va vb : Option Addr) (kn kc vn vc kn' kc' vn' vc' : Nat) (kx ky : Int) (sx sy : Nat) (x y : List (BitVec 8)) (w : World) (h : Bytes w (.slice ka kn kc) x) (h' : Bytes w (.slice kb kn' kc') y) :
    Calls Tryz.prog 87 #[.agg #[.slice ka kn kc, .int .u64 sx, .int .i64 kx, .slice va vn vc], .agg #[.slice kb kn' kc', .int .u64 sy, .int .i64 ky, .slice vb vn' vc']] w fun e w' => e = .returned (.int .i64 (cmpE (x, sx) (y, sy))) ∧ Below w.heap.size w w' := by
  have H := hide h
  have H' := hide h'
  clear h h'
  go_enter Tryz.func87, Tryz.ntmps87
  go_wp2_with fail
  have n0 := heap_alloc_new w (.cells #[.slice ka kn kc, .int .u64 sx, .int .i64 kx, .slice va vn vc] 35)
  have b0 := (Below.refl w.heap.size w).alloc (Nat.le_refl _) (.cells #[.slice ka kn kc, .int .u64 sx, .int .i64 kx, .slice va vn vc] 35)
  have n1 := heap_alloc_new (w.alloc (.cells #[.slice ka kn kc, .int .u64 sx, .int .i64 kx, .slice va vn vc] 35)) (.cells #[.slice kb kn' kc', .int .u64 sy, .int .i64 ky, .slice vb vn' vc'] 35)
  have b1 := b0.alloc b0.size (.cells #[.slice kb kn' kc', .int .u64 sy, .int .i64 ky, .slice vb vn' vc'] 35)
  have n0' := heap_keep ((Below.refl _ (w.alloc (.cells #[.slice ka kn kc, .int .u64 sx, .int .i64 kx, .slice va vn vc] 35))).alloc (Nat.le_refl _) (.cells #[.slice kb kn' kc', .int .u64 sy, .int .i64 ky, .slice vb vn' vc'] 35)) n0
  rw [World.size_alloc] at n1
  have B1 := hide b1
  have K := hide (H.out.below b1)
  have K' := hide (H'.out.below b1)
  clear n0 b0 b1 H H'
  generalize (w.alloc (.cells #[.slice ka kn kc, .int .u64 sx, .int .i64 kx, .slice va vn vc] 35)).alloc (.cells #[.slice kb kn' kc', .int .u64 sy, .int .i64 ky, .slice vb vn' vc'] 35) = w0 at *
  have c0 : w0.cell? ⟨w.heap.size, 0, none⟩ = some (.slice ka kn kc) := cell_of_row w0 _ 0 _ 35 (0, 0) n0'
  have c1 : w0.cell? ⟨w.heap.size, 1, none⟩ = some (.int .u64 sx) := cell_of_row w0 _ 1 _ 35 (0, 0) n0'
  have d0 : w0.cell? ⟨w.heap.size + 1, 0, none⟩ = some (.slice kb kn' kc') := cell_of_row w0 _ 0 _ 35 (0, 0) n1
  have d1 : w0.cell? ⟨w.heap.size + 1, 1, none⟩ = some (.int .u64 sy) := cell_of_row w0 _ 1 _ 35 (0, 0) n1
  have hval : orN (cmpB x y) (cmpN sy sx) = cmpE (x, sx) (y, sy) := rfl
  have HVAL := hide hval
  clear n0' n1 hval
  generalize hq1 : cmpB x y = q1 at *
  generalize hq2 : cmpN sy sx = q2 at *
  have Q1 := hide hq1
  have Q2 := hide hq2
  clear hq1 hq2
  go_region_held (fun w' => w'.cell? ⟨w.heap.size, 0, none⟩ = some (.slice ka kn kc) ∧ w'.cell? ⟨w.heap.size, 1, none⟩ = some (.int .u64 sx) ∧ w'.cell? ⟨w.heap.size + 1, 0, none⟩ = some (.slice kb kn' kc') ∧ w'.cell? ⟨w.heap.size + 1, 1, none⟩ = some (.int .u64 sy)) (first | (with_reducible exact ⟨c0, c1, d0, d1⟩) | (simp only [World.cell?_drew]; with_reducible exact ⟨c0, c1, d0, d1⟩) | exact ⟨alloc_keep (w := w0.drew) c0 _, alloc_keep (w := w0.drew) c1 _, alloc_keep (w := w0.drew) d0 _, alloc_keep (w := w0.drew) d1 _⟩) (first
    | (go_at_call 131; refine (compareB_any ka kb kn kn' kc kc' x y w0.drew K.out K'.out).mono ?_; rintro e w1 ⟨rfl, rfl⟩; rw [Q1.out])
    | (go_at_call 132; refine (cmp64_any sy sx _).mono ?_; rintro e w1 ⟨rfl, rfl⟩; rw [Q2.out])
    | (go_at_call 130; refine (or_two w0.heap.size q1 q2 _ (by go_cell) (by go_cell)).mono ?_; rintro e w1 ⟨rfl, rfl⟩))
  all_goals go_wp2_with fail
  go_ret
  exact ⟨congrArg Ending.returned (congrArg (Value.int IntKind.i64) HVAL.out), B1.out.drew.alloc B1.out.size _⟩
end Go.Proofs.YtjklbhdhjfifhaaGreat

/-
  Blocks: their bytes, and what such bytes tell. Plain mathematics.
-/
namespace Go.Proofs.YtjklbhdhjfifhaaGreat
/-- An entry. -/
structure Ent where
  key : List (BitVec 8)
  seq : Nat
  kind : Int
  val : List (BitVec 8)
def Ent.en (e : Ent) : En := (e.key, e.seq)
def chk1 (e : Ent) : Int := chk e.seq [(e.kind, e.key, e.val)]
theorem chk1_fine {e : Ent} (h : chk1 e = 0) : 0 < e.seq ∧ e.seq ≤ 72057594037927935 ∧ (e.kind = 1 ∨ e.kind = 2 ∧ e.val = []) ∧ e.key ≠ [] ∧ e.key.length ≤ 4096 ∧ e.val.length ≤ 65536 := by
  have h1 := chk_fine h
  have h2 := h1.2.2.2 (e.kind, e.key, e.val) (by simp)
  unfold chk1 chk at h
  split at h
  · cases h
  · split at h
    · cases h
    · rename_i h3
      have hl : longW (e.kind, e.key, e.val) = false := by
        rcases hq : longW (e.kind, e.key, e.val)
        · rfl
        · exact absurd (.inl (by simp [hq])) h3
      simp only [longW, Bool.or_eq_false_iff, decide_eq_false_iff_not] at hl
      refine ⟨h1.1, by omega, h2.1.1, h2.1.2, by omega, by omega⟩

/-- How many bytes two keys begin with that are the same. -/
def alike : List (BitVec 8) → List (BitVec 8) → Nat
  | a :: l, b :: r => if a = b then alike l r + 1 else 0
  | _, _ => 0
theorem alike_le : ∀ a b : List (BitVec 8), alike a b ≤ a.length ∧ alike a b ≤ b.length
  | [], _ => by simp [alike]
  | _ :: _, [] => by simp [alike]
  | a :: l, b :: r => by
    have := alike_le l r
    simp only [alike, List.length_cons]
    split <;> omega
theorem alike_take : ∀ a b : List (BitVec 8), a.take (alike a b) = b.take (alike a b)
  | [], b => by cases b <;> simp [alike]
  | _ :: _, [] => by simp [alike]
  | a :: l, b :: r => by
    have := alike_take l r
    simp only [alike]
    split
    · rename_i h
      rw [List.take_succ_cons, List.take_succ_cons, this, h]
    · rfl
/-- What an entry at a place shares. -/
def shr (i : Nat) (ah key : List (BitVec 8)) : Nat := if i % 16 = 0 then 0 else alike ah key
theorem shr_le (i : Nat) (ah key : List (BitVec 8)) : shr i ah key ≤ ah.length ∧ shr i ah key ≤ key.length := by
  have := alike_le ah key
  unfold shr
  split <;> omega
theorem shr_take (i : Nat) (ah key : List (BitVec 8)) : ah.take (shr i ah key) ++ key.drop (shr i ah key) = key := by
  unfold shr
  split
  · simp
  · rw [alike_take, List.take_append_drop]

/-- An entry's bytes. -/
def entB (s : Nat) (e : Ent) : List (BitVec 8) := short s ++ (short (e.key.length - s) ++ (short (e.seq * 4 + e.kind.toNat) ++ (short e.val.length ++ (e.key.drop s ++ e.val))))
theorem short_pos (n : Nat) : 1 ≤ (short n).length := by
  have := short_ne n
  cases h : short n with
  | nil => exact absurd h this
  | cons a l => simp
theorem entB_ge (s : Nat) (e : Ent) : 4 ≤ (entB s e).length := by
  have h1 := short_pos s
  have h2 := short_pos (e.key.length - s)
  have h3 := short_pos (e.seq * 4 + e.kind.toNat)
  have h4 := short_pos e.val.length
  simp only [entB, List.length_append]
  omega
theorem entB_le {s : Nat} {e : Ent} (h : chk1 e = 0) (hs : s ≤ e.key.length) : (entB s e).length ≤ 40 + (e.key.length + e.val.length) := by
  obtain ⟨h1, h2, h3, h4, h5, h6⟩ := chk1_fine h
  have k1 := short_len s (by omega)
  have k2 := short_len (e.key.length - s) (by omega)
  have k3 := short_len (e.seq * 4 + e.kind.toNat) (by rcases h3 with x | ⟨x, _⟩ <;> rw [x] <;> simp <;> omega)
  have k4 := short_len e.val.length (by omega)
  simp only [entB, List.length_append, List.length_drop]
  omega

/-- A short number that is read stands there as it is put. -/
theorem rdGo_sound : ∀ (l : List (BitVec 8)) (x i Y n : Nat), rdGo x i l = .ok (Y, n) → ∃ y, Y = x + y * 2 ^ (7 * i) ∧ l = short y ++ l.drop (n - i) ∧ (0 < i → 0 < y)
  | [], x, i, Y, n, h => by simp [rdGo] at h
  | b :: r, x, i, Y, n, h => by
    have hb := b.isLt
    simp only [rdGo] at h
    split at h
    · cases h
    · split at h
      · cases h
      · rename_i h2
        split at h
        · rename_i h3
          simp only [Except.ok.injEq, Prod.mk.injEq] at h
          obtain ⟨rfl, rfl⟩ := h
          refine ⟨b.toNat, rfl, ?_, fun hi => by omega⟩
          rw [short_lt h3, show i + 1 - i = 1 by omega]
          simp
        · rename_i h3
          obtain ⟨y, e1, e2, e3⟩ := rdGo_sound r _ _ _ _ h
          have hle := rdGo_le r _ _ _ _ h
          have hy := e3 (by omega)
          refine ⟨b.toNat - 128 + 128 * y, ?_, ?_, fun _ => by omega⟩
          · rw [e1, Nat.mul_add 7 i 1, Nat.pow_add, Nat.add_mul, show 2 ^ (7 * 1) = 128 from rfl, Nat.mul_comm (2 ^ (7 * i)) 128, ← Nat.mul_assoc, Nat.mul_comm y 128, Nat.add_assoc]
          · rw [short_ge (by omega), show (b.toNat - 128 + 128 * y) % 128 = b.toNat - 128 by omega, show (b.toNat - 128 + 128 * y) / 128 = y by omega, show b.toNat - 128 + 128 = b.toNat by omega, show n - i = (n - (i + 1)) + 1 by omega, List.drop_succ_cons, List.cons_append, ← e2]
            simp
theorem rdShort_sound {l : List (BitVec 8)} {y n : Nat} (h : rdShort l = .ok (y, n)) : l = short y ++ l.drop n := by
  obtain ⟨z, e1, e2, _⟩ := rdGo_sound l _ _ _ _ h
  rw [Nat.mul_zero, Nat.pow_zero, Nat.mul_one, Nat.zero_add] at e1
  subst e1
  exact e2

/-- Four short numbers, read. -/
def rd4 (l : List (BitVec 8)) : Option (Nat × Nat × Nat × Nat × List (BitVec 8)) :=
  match rdShort l with
  | .error _ => none
  | .ok (s, n1) => match rdShort (l.drop n1) with
    | .error _ => none
    | .ok (m, n2) => match rdShort ((l.drop n1).drop n2) with
      | .error _ => none
      | .ok (x, n3) => match rdShort (((l.drop n1).drop n2).drop n3) with
        | .error _ => none
        | .ok (v, n4) => some (s, m, x, v, (((l.drop n1).drop n2).drop n3).drop n4)
theorem rd4_back (s m x v : Nat) (hs : s < 2 ^ 64) (hm : m < 2 ^ 64) (hx : x < 2 ^ 64) (hv : v < 2 ^ 64) (r : List (BitVec 8)) : rd4 (short s ++ (short m ++ (short x ++ (short v ++ r)))) = some (s, m, x, v, r) := by
  unfold rd4
  rw [rdShort_short _ hs]
  simp only [List.drop_left]
  rw [rdShort_short _ hm]
  simp only [List.drop_left]
  rw [rdShort_short _ hx]
  simp only [List.drop_left]
  rw [rdShort_short _ hv]
  simp only [List.drop_left]
theorem rd4_sound {l : List (BitVec 8)} {s m x v : Nat} {r : List (BitVec 8)} (h : rd4 l = some (s, m, x, v, r)) : l = short s ++ (short m ++ (short x ++ (short v ++ r))) := by
  unfold rd4 at h
  split at h
  · cases h
  · rename_i h1
    split at h
    · cases h
    · rename_i h2
      split at h
      · cases h
      · rename_i h3
        split at h
        · cases h
        · rename_i h4
          simp only [Option.some.injEq, Prod.mk.injEq] at h
          obtain ⟨rfl, rfl, rfl, rfl, rfl⟩ := h
          rw [← rdShort_sound h4, ← rdShort_sound h3, ← rdShort_sound h2, ← rdShort_sound h1]
/-- The entry that such numbers tell. -/
def entOf (ah r : List (BitVec 8)) (s m x v : Nat) : Ent := ⟨ah.take s ++ r.take m, x / 4, ((x % 4 : Nat) : Int), (r.drop m).take v⟩
/-- One entry, read behind a key. -/
def rdEnt (i : Nat) (ah l : List (BitVec 8)) : Option (Ent × List (BitVec 8)) :=
  match rd4 l with
  | none => none
  | some (s, m, x, v, r) =>
    if ah.length < s ∨ r.length < m ∨ (r.drop m).length < v ∨ chk1 (entOf ah r s m x v) ≠ 0 ∨ s ≠ shr i ah (entOf ah r s m x v).key then none
    else some (entOf ah r s m x v, (r.drop m).drop v)
theorem rdEnt_back {e : Ent} (h : chk1 e = 0) (i : Nat) (ah r : List (BitVec 8)) : rdEnt i ah (entB (shr i ah e.key) e ++ r) = some (e, r) := by
  obtain ⟨h1, h2, h3, h4, h5, h6⟩ := chk1_fine h
  have hs := shr_le i ah e.key
  have ht := shr_take i ah e.key
  generalize hsv : shr i ah e.key = s at *
  unfold rdEnt entB
  simp only [List.append_assoc]
  rw [rd4_back _ _ _ _ (by omega) (by omega) (by rcases h3 with x | ⟨x, _⟩ <;> rw [x] <;> simp <;> omega) (by omega)]
  have hE : entOf ah (e.key.drop s ++ (e.val ++ r)) s (e.key.length - s) (e.seq * 4 + e.kind.toNat) e.val.length = e := by
    obtain ⟨key, seq, kind, val⟩ := e
    simp only at *
    unfold entOf
    rw [List.take_append_of_le_length (by simp), List.take_of_length_le (l := key.drop s) (by simp), ht, List.drop_append_of_le_length (by simp), List.drop_of_length_le (l := key.drop s) (by simp), List.nil_append, List.take_left]
    congr 1
    · rcases h3 with x | ⟨x, _⟩ <;> subst x <;> simp <;> omega
    · rcases h3 with x | ⟨x, _⟩ <;> subst x <;> simp <;> omega
  simp only [hE]
  rw [if_neg]
  · congr 2
    rw [List.drop_append_of_le_length (by simp), List.drop_of_length_le (l := e.key.drop s) (by simp), List.nil_append, List.drop_left]
  · rintro (q | q | q | q | q)
    · omega
    · simp only [List.length_append, List.length_drop] at q; omega
    · simp only [List.length_append, List.length_drop] at q; omega
    · exact q h
    · exact q hsv.symm
theorem rdEnt_sound {i : Nat} {ah l : List (BitVec 8)} {e : Ent} {r : List (BitVec 8)} (h : rdEnt i ah l = some (e, r)) : chk1 e = 0 ∧ l = entB (shr i ah e.key) e ++ r := by
  unfold rdEnt at h
  split at h
  · cases h
  · rename_i s m x v r0 h4
    split at h
    · cases h
    · rename_i hn
      simp only [Option.some.injEq, Prod.mk.injEq] at h
      obtain ⟨he, hr⟩ := h
      have hl := rd4_sound h4
      rw [he] at hn
      have hc : chk1 e = 0 := Classical.byContradiction fun q => hn (.inr (.inr (.inr (.inl q))))
      have hsr : s = shr i ah e.key := Classical.byContradiction fun q => hn (.inr (.inr (.inr (.inr q))))
      have n1 : ¬ ah.length < s := fun q => hn (.inl q)
      have n2 : ¬ r0.length < m := fun q => hn (.inr (.inl q))
      have n3 : ¬ (r0.drop m).length < v := fun q => hn (.inr (.inr (.inl q)))
      refine ⟨hc, ?_⟩
      rw [← hsr, hl]
      have k1 : e.key = ah.take s ++ r0.take m := by rw [← he]; rfl
      have k2 : e.seq * 4 + e.kind.toNat = x := by rw [← he]; show x / 4 * 4 + ((x % 4 : Nat) : Int).toNat = x; rw [Int.toNat_natCast]; omega
      have k3 : e.val = (r0.drop m).take v := by rw [← he]; rfl
      have l1 : (ah.take s).length = s := by rw [List.length_take]; omega
      have l2 : e.key.length - s = m := by rw [k1, List.length_append, l1, List.length_take]; omega
      have l3 : e.val.length = v := by rw [k3, List.length_take]; omega
      have l4 : e.key.drop s = r0.take m := by rw [k1, List.drop_append_of_le_length (by omega), List.drop_of_length_le (by omega), List.nil_append]
      unfold entB
      simp only [List.append_assoc]
      rw [l2, k2, l3, l4, ← hr, k3, List.take_append_drop, List.take_append_drop]
theorem rdEnt_lt {i : Nat} {ah l : List (BitVec 8)} {e : Ent} {r : List (BitVec 8)} (h : rdEnt i ah l = some (e, r)) : r.length < l.length := by
  have h1 := (rdEnt_sound h).2
  have h2 := entB_ge (shr i ah e.key) e
  have := congrArg List.length h1
  rw [List.length_append] at this
  omega

/-- The bytes of entries, one behind the other. -/
def rowB : Nat → List (BitVec 8) → List Ent → List (BitVec 8)
  | _, _, [] => []
  | i, ah, e :: r => entB (shr i ah e.key) e ++ rowB (i + 1) e.key r
/-- Where the restarts' bytes begin. -/
def marks : Nat → Nat → List (BitVec 8) → List Ent → List Nat
  | _, _, _, [] => []
  | i, o, ah, e :: r => (if i % 16 = 0 then [o] else []) ++ marks (i + 1) (o + (entB (shr i ah e.key) e).length) e.key r
def lastK (ah : List (BitVec 8)) : List Ent → List (BitVec 8)
  | [] => ah
  | e :: r => lastK e.key r
theorem lastK_snoc (e : Ent) : ∀ (ah : List (BitVec 8)) (l : List Ent), lastK ah (l ++ [e]) = e.key
  | _, [] => rfl
  | _, x :: r => lastK_snoc e x.key r
theorem rowB_snoc (e : Ent) : ∀ (i : Nat) (ah : List (BitVec 8)) (l : List Ent), rowB i ah (l ++ [e]) = rowB i ah l ++ entB (shr (i + l.length) (lastK ah l) e.key) e
  | i, ah, [] => by simp [rowB, lastK]
  | i, ah, x :: r => by
    have := rowB_snoc e (i + 1) x.key r
    simp only [List.cons_append, rowB, this, List.append_assoc, List.length_cons, lastK]
    rw [show i + 1 + r.length = i + (r.length + 1) by omega]
theorem marks_snoc (e : Ent) : ∀ (i o : Nat) (ah : List (BitVec 8)) (l : List Ent), marks i o ah (l ++ [e]) = marks i o ah l ++ if (i + l.length) % 16 = 0 then [o + (rowB i ah l).length] else []
  | i, o, ah, [] => by simp [marks, rowB]
  | i, o, ah, x :: r => by
    have := marks_snoc e (i + 1) (o + (entB (shr i ah x.key) x).length) x.key r
    simp only [List.cons_append, marks, this, List.append_assoc, List.length_cons, rowB, List.length_append]
    rw [show i + 1 + r.length = i + (r.length + 1) by omega, show o + (entB (shr i ah x.key) x).length + (rowB (i + 1) x.key r).length = o + ((entB (shr i ah x.key) x).length + (rowB (i + 1) x.key r).length) by omega]
def rdRow (i : Nat) (ah l : List (BitVec 8)) : Option (List Ent) :=
  if l = [] then some [] else
  match rdEnt i ah l with
  | none => none
  | some (e, r) => if r.length < l.length then (rdRow (i + 1) e.key r).map (e :: ·) else none
termination_by l.length
theorem rdRow_nil (i : Nat) (ah : List (BitVec 8)) : rdRow i ah [] = some [] := by rw [rdRow, if_pos rfl]
theorem rdRow_none {i : Nat} {ah l : List (BitVec 8)} (h : l ≠ []) (he : rdEnt i ah l = none) : rdRow i ah l = none := by rw [rdRow, if_neg h, he]
theorem rdRow_some {i : Nat} {ah l : List (BitVec 8)} {e : Ent} {r : List (BitVec 8)} (h : l ≠ []) (he : rdEnt i ah l = some (e, r)) : rdRow i ah l = (rdRow (i + 1) e.key r).map (e :: ·) := by
  rw [rdRow, if_neg h, he]
  simp only
  rw [if_pos (rdEnt_lt he)]
theorem rowB_ne (i : Nat) (ah : List (BitVec 8)) (e : Ent) (r : List Ent) : rowB i ah (e :: r) ≠ [] := by
  have h := entB_ge (shr i ah e.key) e
  intro q
  have := congrArg List.length q
  simp only [rowB, List.length_append, List.length_nil] at this
  omega
theorem rdRow_back : ∀ (es : List Ent) (i : Nat) (ah : List (BitVec 8)), (∀ e ∈ es, chk1 e = 0) → rdRow i ah (rowB i ah es) = some es
  | [], i, ah, _ => rdRow_nil i ah
  | e :: r, i, ah, h => by
    rw [rdRow_some (rowB_ne i ah e r) (rdEnt_back (h e (by simp)) i ah (rowB (i + 1) e.key r)), rdRow_back r (i + 1) e.key fun x hx => h x (by simp [hx])]
    rfl
end Go.Proofs.YtjklbhdhjfifhaaGreat

/-
  Whether bytes are the same; two writes in a row.
-/
namespace Go.Proofs.YtjklbhdhjfifhaaGreat
open Go.RowKit
set_option maxRecDepth 100000
set_option maxHeartbeats 1000000
theorem take_eq_succ {x y : List (BitVec 8)} {k : Nat} (h1 : k < x.length) (h2 : k < y.length) (h : x.take k = y.take k) (e : x[k] = y[k]) : x.take (k + 1) = y.take (k + 1) := by
  rw [List.take_succ_eq_append_getElem h1, List.take_succ_eq_append_getElem h2, h, e]
theorem bytes_any (a a' : Option Addr) (n n' c c' : Nat) (x y : List (BitVec 8)) (w : World) (h : Bytes w (.slice a n c) x) (h' : Bytes w (.slice a' n' c') y) (hn : n ≤ 1000000000) :
    Calls Tryz.prog 17 #[.slice a n c, .slice a' n' c'] w fun e w' => e = .returned (.bool (decide (x = y))) ∧ ∃ m, w' = w.drewN m := by
  have hl := h.len
  have hl' := h'.len
  have H := hide h
  have H' := hide h'
  have HL := hide hl
  have HL' := hide hl'
  clear h h' hl hl'
  by_cases hnn : n = n'
  · subst hnn
    go_enter Tryz.func17, Tryz.ntmps17
    go_wp2_with fail
    go_loopw [5] (fun i wr => ∃ k : Nat, i = .int .i64 (k : Nat) ∧ k ≤ n ∧ x.take k = y.take k ∧ ∃ m, wr = w.drewN m) (fun i _ => n - (intOf i).toNat)
    case atStart => exact ⟨0, rfl, Nat.zero_le _, rfl, 0, rfl⟩
    case round =>
      obtain ⟨k, rfl, hk, htk, m, rfl⟩ := hrel
      have HTK := hide htk
      clear htk
      by_cases hkn : k < n
      · obtain ⟨b, off, rfl⟩ := H.out.addr (by omega)
        obtain ⟨b', off', rfl⟩ := H'.out.addr (by omega)
        have hkx : k < x.length := by have := HL.out; omega
        have hky : k < y.length := by have := HL'.out; omega
        have h1 := H.out.at k hkx
        have h2 := H'.out.at k hky
        have e1 : x.getD k 0 = x[k] := by simp [List.getD, hkx]
        have e2 : y.getD k 0 = y[k] := by simp [List.getD, hky]
        rw [e1] at h1
        rw [e2] at h2
        have i1 : (k : Int) < (n : Int) := by omega
        have i0 : (0 : Int) ≤ (k : Int) := by omega
        clear e1 e2
        by_cases hxy : x[k] = y[k]
        · have HT2 := hide (take_eq_succ hkx hky HTK.out hxy)
          rw [← hxy] at h2
          generalize x[k].toNat = q at *
          clear hxy
          go_wp2_with fail
          go_quiet (fail)
          go_wp2
          go_roundw
          case rel => exact ⟨k + 1, by go_num, by omega, HT2.out, _, rfl⟩
          case measure => simp [intOf]; omega
        · have hne : x[k].toNat ≠ y[k].toNat := fun e => hxy (BitVec.eq_of_toNat_eq e)
          have hxn : ¬ x = y := fun e => hxy (by subst e; rfl)
          have HXN := hide hxn
          generalize x[k].toNat = q at *
          generalize y[k].toNat = q' at *
          have hne' : ¬ (q : Int) = (q' : Int) := by omega
          clear hxy hxn hne
          go_wp2_with fail
          go_quiet (fail)
          go_wp2
          go_ret
          exact ⟨congrArg Ending.returned (congrArg Value.bool (decide_eq_false HXN.out).symm), _, World.drewN_drewN _ _ _⟩
      · obtain rfl : k = n := by omega
        have hxy : x = y := by
          have := HTK.out
          rwa [List.take_of_length_le (by have := HL.out; omega), List.take_of_length_le (by have := HL'.out; omega)] at this
        have HXY := hide hxy
        clear hxy
        go_wp2
        go_ret
        exact ⟨congrArg Ending.returned (congrArg Value.bool (decide_eq_true HXY.out).symm), m, rfl⟩
  · have hnn' : ¬ (n : Int) = (n' : Int) := by omega
    have hxn : ¬ x = y := fun e => hnn (by rw [HL.out, HL'.out, e])
    have HXN := hide hxn
    clear hxn
    go_enter Tryz.func17, Tryz.ntmps17
    go_wp2_with fail
    go_ret
    exact ⟨congrArg Ending.returned (congrArg Value.bool (decide_eq_false HXN.out).symm), 0, rfl⟩
end Go.Proofs.YtjklbhdhjfifhaaGreat

/-
  One block turned.
-/
namespace Go.Proofs.YtjklbhdhjfifhaaGreat
open Go.RowKit
def Tick (w w' : World) (f : Nat) (t : TypeId) (cs : Array Value) : Prop :=
  w'.heap[f]? = some (.cells cs t (0, 0)) ∧ w'.heap.size = w.heap.size ∧ (∀ b, b ≠ f → w'.heap[b]? = w.heap[b]?) ∧ ∀ B, B ≤ f → Below B w w'
theorem Tick.refl {w : World} {f : Nat} {t : TypeId} {cs : Array Value} (h : w.heap[f]? = some (.cells cs t (0, 0))) : Tick w w f t cs := ⟨h, rfl, fun _ _ => rfl, fun _ _ => Below.refl _ _⟩
theorem Tick.set {w w' : World} {f : Nat} {t : TypeId} {cs : Array Value} (h : Tick w w' f t cs) (o : Nat) (v : Value) : Tick w (w'.setCell ⟨f, o, none⟩ v) f t (cs.setIfInBounds o v) := by
  obtain ⟨h1, h2, h3, h4⟩ := h
  exact ⟨heap_setCell_same w' f o cs t v h1, by rw [← h2]; simp, fun b hb => (heap_setCell_other _ _ _ _ (by exact hb)).trans (h3 b hb), fun B hB => (h4 B hB).setCell (by exact hB) v⟩
theorem Tick.cell {w w' : World} {f : Nat} {t : TypeId} {cs : Array Value} (h : Tick w w' f t cs) (o : Nat) : w'.cell? ⟨f, o, none⟩ = cs[o]? := cell_of_row w' f o cs t (0, 0) h.1
theorem Tick.frozen {w w' : World} {f : Nat} {t : TypeId} {cs : Array Value} (h : Tick w w' f t cs) (o : Nat) : w'.frozen? ⟨f, o, none⟩ = false := frozen_of_row w' f o cs t h.1
theorem Turns.of_tick {w w' : World} {f : Nat} {t : TypeId} {cs : Array Value} (h : Tick w w' f t cs) : Turns (fun k => k = f) w w' := by
  obtain ⟨h1, h2, h3, h4⟩ := h
  have hb := h4 0 (Nat.zero_le _)
  exact ⟨hb.os, hb.tape, hb.output, by omega, fun k _ hk => h3 k hk⟩
theorem turns_cell {G : Nat} {a w : World} (h : Turns (fun j => j = G) a w) (o : Nat) (v : Value) : Turns (fun j => j = G) a (w.setCell ⟨G, o, none⟩ v) :=
  h.trans ⟨rfl, rfl, rfl, by simp, fun k _ hn => heap_setCell_other _ _ _ _ (by exact hn)⟩
theorem Bytes.quiet {w w' : World} {v : Value} {bs : List (BitVec 8)} (h : Bytes w v bs) (t : Turns (fun _ => False) w w') : Bytes w' v bs := h.turns t fun _ _ _ _ x => x
end Go.Proofs.YtjklbhdhjfifhaaGreat

/-
  Copies of bytes, and of entries.
-/
namespace Go.Proofs.YtjklbhdhjfifhaaGreat
open Go.RowKit
set_option maxRecDepth 100000
set_option maxHeartbeats 4000000
theorem nil_eql (a : Option Addr) (n c : Nat) (w : World) : (binOp .eql 28 (.slice a n c) (.slice none 0 0)).run Tryz.prog w = .ok (.bool a.isNone) w := by
  cases a <;> kernel_rfl
theorem clone_any (a : Option Addr) (n c : Nat) (bs : List (BitVec 8)) (w : World) (h : Bytes w (.slice a n c) bs) (hn : n ≤ 1000000) :
    Calls Tryz.prog 47 #[.slice a n c] w fun e w' => ∃ a' c', e = .returned (.slice a' n c') ∧ Bytes w' (.slice a' n c') bs ∧ (∀ x, a' = some x → w.heap.size ≤ x.block ∧ x.block < w'.heap.size) ∧ n ≤ c' ∧ (a' = none → c' = 0) ∧ Below w.heap.size w w' := by
  have hl := h.len
  cases a with
  | none =>
    obtain rfl : n = 0 := by
      rcases Nat.eq_zero_or_pos n with h0 | h0
      · exact h0
      · obtain ⟨_, _, e⟩ := h.addr h0; cases e
    obtain rfl : bs = [] := List.eq_nil_of_length_eq_zero hl.symm
    clear h hl
    have he : (binOp .eql 28 (.slice none 0 c) (.slice none 0 0)).run Tryz.prog w = .ok (.bool true) w := nil_eql none 0 c w
    go_enter Tryz.func47, Tryz.ntmps47
    go_wp2_with fail
    go_ret
    exact ⟨none, 0, rfl, Bytes.empty _, fun x e => (by cases e), Nat.le_refl _, fun _ => rfl, Below.refl _ _⟩
  | some ad =>
    have hb : Below w.heap.size w (w.alloc (.cells #[] 5)) := (Below.refl _ _).alloc (Nat.le_refl _) _
    obtain ⟨g, c2, w2, hr, hg, hrow, hb2, hc, _⟩ := append_bytes2 (w.alloc (.cells #[] 5)) w.heap.size (some ⟨w.heap.size, 0, none⟩) 0 0 [] rfl (.slice (some ad) n c) bs n hl (h.below hb) (by simp)
      (.inr ⟨_, rfl, Nat.le_refl _, Nat.le_refl _, #[], heap_alloc_new w _, Nat.le_refl _, fun k hk => by simp [cellsOf] at hk⟩) (by omega)
    rw [Nat.zero_add] at hr hc
    rw [List.nil_append] at hrow
    have HR := hide hr
    have HW := hide (RowB.bytes (c' := c2) hrow hl)
    have HB := hide (hb.trans hb2)
    have HG := hide (show g < w2.heap.size by obtain ⟨cs, h1, _⟩ := hrow; exact lt_of_heap h1)
    clear hr hrow hb hb2 h hl
    have he : (binOp .eql 28 (.slice (some ad) n c) (.slice none 0 0)).run Tryz.prog w = .ok (.bool false) w := nil_eql (some ad) n c w
    go_enter Tryz.func47, Tryz.ntmps47
    go_wp2_with (at_builtin; refine wpList_append_run rfl _ _ 28 rfl (.slice (some ⟨w.heap.size, 0, none⟩) 0 0) (.slice (some ad) n c) rfl rfl _ _ (HR.out _) ?_)
    go_ret
    exact ⟨_, c2, rfl, HW.out, fun x e => by cases e; exact ⟨hg, HG.out⟩, hc, (fun e => by cases e), HB.out⟩
theorem info29 : (Tryz.prog.info? 35).map (·.size) = some 4 := by kernel_rfl
end Go.Proofs.YtjklbhdhjfifhaaGreat

/-
  Entries and where their bytes lie.
-/
namespace Go.Proofs.YtjklbhdhjfifhaaGreat
open Go.RowKit
/-- An entry and where its bytes lie. -/
structure Tow where
  ka : Option Addr
  kc : Nat
  va : Option Addr
  vc : Nat
  e : Ent
def Tow.kv (x : Tow) : Value := .slice x.ka x.e.key.length x.kc
def Tow.vv (x : Tow) : Value := .slice x.va x.e.val.length x.vc
def Tow.ent (x : Tow) : Array Value := #[x.kv, .int .u64 (x.e.seq : Nat), .int .i64 x.e.kind, x.vv]
/-- A block that an entry's bytes lie in. -/
def Tow.bytesIn (x : Tow) (q : Nat) : Prop := (∃ a : Addr, x.ka = some a ∧ a.block = q) ∨ ∃ a : Addr, x.va = some a ∧ a.block = q
theorem bytes_keep {S : Nat → Prop} {w w' : World} {a : Option Addr} {n c : Nat} {bs : List (BitVec 8)} (h : Bytes w (.slice a n c) bs) (tt : Turns S w w') (hS : ∀ x : Addr, a = some x → ¬ S x.block) : Bytes w' (.slice a n c) bs :=
  h.turns tt fun x n c e => by cases e; exact hS x rfl
end Go.Proofs.YtjklbhdhjfifhaaGreat

/-
  A table that is not there, or that nobody made.
-/
namespace Go.Proofs.YtjklbhdhjfifhaaGreat
open Go.RowKit
set_option maxRecDepth 100000
set_option maxHeartbeats 4000000
def zeroE : Array Value := #[.slice none 0 0, .int .u64 0, .int .i64 0, .slice none 0 0]
end Go.Proofs.YtjklbhdhjfifhaaGreat

/-
  Rows of entries of one's own.
-/
namespace Go.Proofs.YtjklbhdhjfifhaaGreat
open Go.RowKit
set_option maxRecDepth 100000
theorem t29_size : Tryz.t35.size = 4 := by kernel_rfl
theorem t29_bytes : Tryz.t35.bytes = 64 := by kernel_rfl
theorem t29_info : Tryz.prog.info? 35 = some Tryz.t35 := by kernel_rfl
theorem t29_zero : Tryz.t35.zero = some (.agg #[.slice none 0 0, .int .u64 0, .int .i64 0, .slice none 0 0]) := by kernel_rfl
def entCells (R : List Tow) : List Value := R.flatMap fun x => [x.kv, .int .u64 (x.e.seq : Nat), .int .i64 x.e.kind, x.vv]
theorem entCells_length (R : List Tow) : (entCells R).length = R.length * 4 := by
  induction R with
  | nil => rfl
  | cons x r ih => simp only [entCells, List.flatMap_cons, List.length_append, List.length_cons, List.length_nil] at ih ⊢; omega
theorem entCells_snoc (R : List Tow) (x : Tow) : entCells (R ++ [x]) = entCells R ++ [x.kv, .int .u64 (x.e.seq : Nat), .int .i64 x.e.kind, x.vv] := by
  simp [entCells]
theorem entCells_at (R : List Tow) (k : Nat) (x : Tow) (h : R[k]? = some x) : (entCells R)[k * 4]? = some x.kv ∧ (entCells R)[k * 4 + 1]? = some (.int .u64 (x.e.seq : Nat)) ∧ (entCells R)[k * 4 + 2]? = some (.int .i64 x.e.kind) ∧ (entCells R)[k * 4 + 3]? = some x.vv := by
  induction R generalizing k with
  | nil => simp at h
  | cons y r ih =>
    cases k with
    | zero =>
      obtain rfl : y = x := by simpa using h
      exact ⟨rfl, rfl, rfl, rfl⟩
    | succ k =>
      have := ih k (by simpa using h)
      have e : ∀ j, (entCells (y :: r))[(k + 1) * 4 + j]? = (entCells r)[k * 4 + j]? := fun j => by
        show ([y.kv, .int .u64 (y.e.seq : Nat), .int .i64 y.e.kind, y.vv] ++ entCells r)[(k + 1) * 4 + j]? = _
        rw [List.getElem?_append_right (by simp; omega)]
        congr 1
        simp
        omega
      exact ⟨(e 0).trans this.1, by rw [e 1]; exact this.2.1, by rw [e 2]; exact this.2.2.1, by rw [e 3]; exact this.2.2.2⟩
/-- Each entry's bytes, behind B. -/
def Shown (w : World) (B : Nat) (R : List Tow) : Prop := ∀ x, x ∈ R → Bytes w x.kv x.e.key ∧ Bytes w x.vv x.e.val ∧ ∀ q, x.bytesIn q → B ≤ q ∧ q < w.heap.size
def inRow (v : Value) (k : Nat) : Prop := ∃ n c, v = .slice (some ⟨k, 0, none⟩) n c
def ERow (w : World) (B : Nat) (v : Value) (R : List Tow) : Prop :=
  (R = [] ∧ v = .slice none 0 0) ∨ ∃ g c n : Nat, v = .slice (some ⟨g, 0, none⟩) n c ∧ n = R.length ∧ n ≤ c ∧ B ≤ g ∧ RowC w g 35 (c * 4) (entCells R)
theorem ERow.row {w : World} {B : Nat} {v : Value} {R : List Tow} (h : ERow w B v R) {k : Nat} (hk : inRow v k) : B ≤ k ∧ k < w.heap.size := by
  obtain ⟨n', c', e⟩ := hk
  rcases h with ⟨_, rfl⟩ | ⟨g, c, n, rfl, _, _, hB, cs, h1, _⟩
  · cases e
  · cases e; exact ⟨hB, lt_of_heap h1⟩
theorem ERow.keep {S : Nat → Prop} {w w' : World} {B : Nat} {v : Value} {R : List Tow} (h : ERow w B v R) (t : Turns S w w') (hn : ∀ k, inRow v k → ¬ S k) : ERow w' B v R := by
  rcases h with h | ⟨g, c, n, h1, h2, h3, h4, cs, h5, h6, h7⟩
  · exact .inl h
  · exact .inr ⟨g, c, n, h1, h2, h3, h4, cs, t.heap h5 (hn g ⟨n, c, h1⟩), h6, h7⟩
theorem ERow.len {w : World} {B : Nat} {v : Value} {R : List Tow} (h : ERow w B v R) : ∃ a c, v = .slice a R.length c := by
  rcases h with ⟨rfl, rfl⟩ | ⟨g, c, n, rfl, rfl, _⟩
  · exact ⟨none, 0, rfl⟩
  · exact ⟨_, _, rfl⟩
theorem Shown.keep {S : Nat → Prop} {w w' : World} {B : Nat} {R : List Tow} (h : Shown w B R) (t : Turns S w w') (hS : ∀ x, x ∈ R → ∀ q, x.bytesIn q → ¬ S q) : Shown w' B R := fun x hx =>
  ⟨bytes_keep (h x hx).1 t fun a e => hS x hx _ (.inl ⟨a, e, rfl⟩), bytes_keep (h x hx).2.1 t fun a e => hS x hx _ (.inr ⟨a, e, rfl⟩), fun q hq => ⟨((h x hx).2.2 q hq).1, Nat.lt_of_lt_of_le ((h x hx).2.2 q hq).2 t.size⟩⟩
theorem append_ent (w : World) (B : Nat) (v : Value) (R : List Tow) (h : ERow w B v R) (hB : B ≤ w.heap.size) (hlen : R.length ≤ 1000000000) (x : Tow) (g c : Nat) (hg : w.heap[g]? = some (.cells #[x.kv, .int .u64 (x.e.seq : Nat), .int .i64 x.e.kind, x.vv] 35 (0, 0))) :
    ∃ (g' n' c' : Nat) (w' : World), (∀ ty, (Builtin.append_ #[37, 37] ty #[v, .slice (some ⟨g, 0, none⟩) 1 c]).run Tryz.prog w = .ok (.slice (some ⟨g', 0, none⟩) n' c') w') ∧ ERow w' B (.slice (some ⟨g', 0, none⟩) n' c') (R ++ [x]) ∧ Turns (inRow v) w w' ∧ Below B w w' ∧ (inRow v g' ∨ g' = w.heap.size) := by
  have hcell : ∀ j, w.cell? ⟨g, j, none⟩ = (#[x.kv, .int .u64 (x.e.seq : Nat), .int .i64 x.e.kind, x.vv] : Array Value)[j]? := fun j => cell_of_row w g j _ 35 (0, 0) hg
  have hsrc : Src Tryz.prog Tryz.t35.size 37 (.slice (some ⟨g, 0, none⟩) 1 c) 1 [x.kv, .int .u64 (x.e.seq : Nat), .int .i64 x.e.kind, x.vv] w := Src.ofSlice w Tryz.underlying37 ⟨g, 0, none⟩ 1 c _ (by rw [t29_size]; rfl) (fun j u hu => by
    rw [Go.WideShapes.add_plain, Nat.zero_add, hcell j]
    simpa using hu) (fun u hu => by
    simp only [List.mem_cons, List.not_mem_nil, or_false] at hu
    rcases hu with rfl | rfl | rfl | rfl <;> rfl)
  obtain ⟨base, sLen, sCap, rfl, hsl, hbase⟩ : ∃ (base : Option Addr) (sLen sCap : Nat), v = .slice base sLen sCap ∧ sLen = R.length ∧ ((base = none ∧ sLen = 0 ∧ sCap = 0 ∧ 0 < 1) ∨ ∃ g, base = some ⟨g, 0, none⟩ ∧ B ≤ g ∧ sLen ≤ sCap ∧ RowC w g 35 (sCap * Tryz.t35.size) (entCells R)) := by
    rcases h with ⟨rfl, rfl⟩ | ⟨g, c, n, rfl, rfl, h3, h4, h5⟩
    · exact ⟨none, 0, 0, rfl, rfl, .inl ⟨rfl, rfl, rfl, by omega⟩⟩
    · exact ⟨_, _, _, rfl, rfl, .inr ⟨g, rfl, h4, h3, by rw [t29_size]; exact h5⟩⟩
  obtain ⟨g', cp, w', hr, hg', hrow, hb, hcp, hin, hnew, hkeep⟩ := append_gen2 (P := Tryz.prog) w B 37 35 Tryz.t35 _ Tryz.underlying37 t29_info t29_zero rfl base sLen sCap (entCells R) (by rw [t29_size, hsl, entCells_length]) _ 1 _ hsrc hB hbase (by rw [t29_bytes]; omega) (by omega)
  refine ⟨g', _, cp, w', hr, .inr ⟨g', cp, _, rfl, by simp [hsl], hcp, hg', ?_⟩, ⟨hb.os, hb.tape, hb.output, hb.size, fun k hk hn => hkeep k hk fun e => hn ⟨sLen, sCap, by rw [e]⟩⟩, hb, ?_⟩
  · rw [t29_size] at hrow
    rw [entCells_snoc]
    exact hrow
  · rcases Nat.lt_or_ge sCap (sLen + 1) with h1 | h1
    · exact .inr (hnew h1)
    · exact .inl ⟨sLen, sCap, by rw [(hin h1).1]⟩
end Go.Proofs.YtjklbhdhjfifhaaGreat

/-
  Restarts' places, whole blocks, and what a block cut by one byte tells. Plain mathematics.
-/
namespace Go.Proofs.YtjklbhdhjfifhaaGreat
/-- A number's four bytes, the lowest first. -/
def four (n : Nat) : List (BitVec 8) := [BitVec.ofNat 8 n, BitVec.ofNat 8 (n / 256), BitVec.ofNat 8 (n / 65536), BitVec.ofNat 8 (n / 16777216)]
def le4 (a b c d : BitVec 8) : Nat := a.toNat + 256 * b.toNat + 65536 * c.toNat + 16777216 * d.toNat
theorem le4_four (n : Nat) (h : n < 4294967296) : le4 (BitVec.ofNat 8 n) (BitVec.ofNat 8 (n / 256)) (BitVec.ofNat 8 (n / 65536)) (BitVec.ofNat 8 (n / 16777216)) = n := by
  simp only [le4, BitVec.toNat_ofNat]
  omega
theorem four_len (n : Nat) : (four n).length = 4 := rfl
/-- The number that four bytes at a place tell. -/
def at4 (p : List (BitVec 8)) (k : Nat) : Nat := le4 (p.getD k 0) (p.getD (k + 1) 0) (p.getD (k + 2) 0) (p.getD (k + 3) 0)
theorem at4_four (x y : List (BitVec 8)) (n : Nat) (h : n < 4294967296) : at4 (x ++ (four n ++ y)) x.length = n := by
  have e : ∀ j, (x ++ (four n ++ y)).getD (x.length + j) 0 = (four n ++ y).getD j 0 := fun j => by
    simp [List.getD, List.getElem?_append_right]
  unfold at4
  rw [show (x ++ (four n ++ y)).getD x.length 0 = (x ++ (four n ++ y)).getD (x.length + 0) 0 from rfl, e 0, e 1, e 2, e 3]
  exact le4_four n h
theorem at4_lt (p : List (BitVec 8)) (k : Nat) : at4 p k < 4294967296 := by
  unfold at4 le4
  have h1 := (p.getD k 0).isLt
  have h2 := (p.getD (k + 1) 0).isLt
  have h3 := (p.getD (k + 2) 0).isLt
  have h4 := (p.getD (k + 3) 0).isLt
  omega
/-- So many numbers from a place on. -/
def pls (p : List (BitVec 8)) : Nat → Nat → List Nat
  | _, 0 => []
  | k, n + 1 => at4 p k :: pls p (k + 4) n
theorem pls_len (p : List (BitVec 8)) : ∀ (n k : Nat), (pls p k n).length = n
  | 0, _ => rfl
  | n + 1, k => by simp [pls, pls_len p n]
theorem pls_snoc (p : List (BitVec 8)) : ∀ (n k : Nat), pls p k (n + 1) = pls p k n ++ [at4 p (k + 4 * n)]
  | 0, k => by simp [pls]
  | n + 1, k => by
    rw [show pls p k (n + 1 + 1) = at4 p k :: pls p (k + 4) (n + 1) from rfl, pls_snoc p n (k + 4)]
    simp only [pls, List.cons_append]
    rw [show k + 4 + 4 * n = k + 4 * (n + 1) by omega]
theorem pls_four (ms : List Nat) (hm : ∀ m ∈ ms, m < 4294967296) : ∀ x y : List (BitVec 8), pls (x ++ (ms.flatMap four ++ y)) x.length ms.length = ms := by
  induction ms with
  | nil => intro x y; rfl
  | cons m r ih =>
    intro x y
    have h1 := at4_four x (r.flatMap four ++ y) m (hm m (by simp))
    have h2 := ih (fun z hz => hm z (by simp [hz])) (x ++ four m) y
    rw [List.length_append, four_len] at h2
    simp only [List.flatMap_cons, List.append_assoc, List.length_cons, pls] at h1 h2 ⊢
    rw [h1, h2]
/-- Are entries in order, none twice? -/
def inOrd : List Ent → Bool
  | x :: y :: r => decide (cmpE x.en y.en < 0) && inOrd (y :: r)
  | _ => true
def mk (es : List Ent) : List Nat := marks 0 0 [] es
/-- A block's bytes. -/
def blkB (es : List Ent) : List (BitVec 8) := rowB 0 [] es ++ ((mk es).flatMap four ++ four (mk es).length)
def parseK (p : List (BitVec 8)) : Option (List Ent) :=
  if p.length < 4 then none
  else if (p.length - 4) / 4 < at4 p (p.length - 4) then none
  else match rdRow 0 [] (p.take (p.length - 4 - 4 * at4 p (p.length - 4))) with
    | none => none
    | some es => if es = [] ∨ inOrd es = false ∨ mk es ≠ pls p (p.length - 4 - 4 * at4 p (p.length - 4)) (at4 p (p.length - 4)) then none else some es
theorem marks_lt : ∀ (es : List Ent) (i o : Nat) (ah : List (BitVec 8)) (m : Nat), m ∈ marks i o ah es → o ≤ m ∧ m < o + (rowB i ah es).length
  | [], i, o, ah, m, h => by simp [marks] at h
  | e :: r, i, o, ah, m, h => by
    have hg := entB_ge (shr i ah e.key) e
    simp only [marks, List.mem_append] at h
    simp only [rowB, List.length_append]
    rcases h with h | h
    · split at h
      · obtain rfl : m = o := by simpa using h
        omega
      · simp at h
    · have := marks_lt r (i + 1) _ _ m h
      omega
theorem marks_len : ∀ (es : List Ent) (i o : Nat) (ah : List (BitVec 8)), (marks i o ah es).length + (i + 15) / 16 = (i + es.length + 15) / 16
  | [], i, o, ah => by simp [marks]
  | e :: r, i, o, ah => by
    have := marks_len r (i + 1) (o + (entB (shr i ah e.key) e).length) e.key
    simp only [marks, List.length_append, List.length_cons]
    split
    · simp only [List.length_singleton]; omega
    · simp only [List.length_nil]; omega
theorem mk_len (es : List Ent) : (mk es).length = (es.length + 15) / 16 := by
  have := marks_len es 0 0 []
  unfold mk
  omega
theorem rowB_ge : ∀ (es : List Ent) (i : Nat) (ah : List (BitVec 8)), 4 * es.length ≤ (rowB i ah es).length
  | [], _, _ => by simp [rowB]
  | e :: r, i, ah => by
    have h1 := entB_ge (shr i ah e.key) e
    have h2 := rowB_ge r (i + 1) e.key
    simp only [rowB, List.length_append, List.length_cons]
    omega
def wt (es : List Ent) : Nat := (es.map fun e => e.key.length + e.val.length).sum
theorem rowB_le : ∀ (es : List Ent) (i : Nat) (ah : List (BitVec 8)), (∀ e ∈ es, chk1 e = 0) → (rowB i ah es).length ≤ 40 * es.length + wt es
  | [], _, _, _ => by simp [rowB]
  | e :: r, i, ah, h => by
    have h1 := entB_le (s := shr i ah e.key) (h e (by simp)) (shr_le i ah e.key).2
    have h2 := rowB_le r (i + 1) e.key fun x hx => h x (by simp [hx])
    simp only [rowB, List.length_append, List.length_cons, wt, List.map_cons, List.sum_cons] at h2 ⊢
    omega
theorem blkB_len (es : List Ent) : (blkB es).length = (rowB 0 [] es).length + 4 * (mk es).length + 4 := by
  have : ∀ l : List Nat, (l.flatMap four).length = 4 * l.length := fun l => by
    induction l with
    | nil => rfl
    | cons a r ih => simp only [List.flatMap_cons, List.length_append, ih, four_len, List.length_cons]; omega
  simp only [blkB, List.length_append, this, four_len]
  omega
/-- What may be a block, and is not too long. -/
structure Fine (es : List Ent) : Prop where
  each : ∀ e ∈ es, chk1 e = 0
  ne : es ≠ []
  ord : inOrd es = true
theorem blk_back {es : List Ent} (h : Fine es) (hl : (blkB es).length ≤ 262144) : parseK (blkB es) = some es := by
  have hlen := blkB_len es
  have hm : ∀ m ∈ mk es, m < 4294967296 := fun m hm => by have := (marks_lt es 0 0 [] m hm).2; omega
  have h1 : at4 (blkB es) ((blkB es).length - 4) = (mk es).length := by
    have := at4_four (rowB 0 [] es ++ (mk es).flatMap four) [] (mk es).length (by omega)
    rw [List.append_nil, List.append_assoc] at this
    rw [show (blkB es).length - 4 = (rowB 0 [] es ++ (mk es).flatMap four).length by
      have h2 : (blkB es).length = (rowB 0 [] es ++ (mk es).flatMap four).length + 4 := by
        rw [show blkB es = (rowB 0 [] es ++ (mk es).flatMap four) ++ four (mk es).length by simp [blkB], List.length_append, four_len]
      omega]
    exact this
  unfold parseK
  rw [h1, if_neg (by omega), if_neg (by omega)]
  have h2 : (blkB es).length - 4 - 4 * (mk es).length = (rowB 0 [] es).length := by omega
  rw [h2, show (blkB es).take (rowB 0 [] es).length = rowB 0 [] es by rw [blkB, List.take_left], rdRow_back es 0 [] h.each]
  simp only
  rw [if_neg]
  have h3 := pls_four (mk es) hm (rowB 0 [] es) (four (mk es).length)
  rintro (q | q | q)
  · exact h.ne q
  · rw [h.ord] at q; cases q
  · exact q (by rw [blkB]; exact h3.symm)
end Go.Proofs.YtjklbhdhjfifhaaGreat
