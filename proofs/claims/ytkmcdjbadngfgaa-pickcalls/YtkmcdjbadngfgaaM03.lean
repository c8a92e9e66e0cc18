import Derived.Test.YtkmcdjbadngfgaaM01
import Derived.Lib.BytesEntry
import Derived.Laws.BytesArg
import Derived.Laws.Externs
/-
  How bytes, and entries, are compared.
-/
namespace Go.Proofs.Ytkmcdjbadngfgaa
open Go.RowKit
set_option maxRecDepth 100000
set_option maxHeartbeats 4000000
def nums (bs : List (BitVec 8)) : List Int := bs.map fun b => (b.toNat : Int)
/-- Bytes as the library's words have them. -/
def u8s (bs : List (BitVec 8)) : List UInt8 := Lib.bytesOf (nums bs)
theorem bytesOf_any {P : Program} {w : World} {a : Option Addr} {n c : Nat} {bs : List (BitVec 8)} (h : Bytes w (.slice a n c) bs) : (Extern.Bytes.bytesOf (.slice a n c)).run P w = .ok ⟨(u8s bs).toArray⟩ w := by
  have hl := h.len
  cases a with
  | none =>
    obtain rfl : bs = [] := by
      rcases Nat.eq_zero_or_pos n with h0 | h0
      · exact List.eq_nil_of_length_eq_zero (by omega)
      · obtain ⟨_, _, e⟩ := h.addr h0; cases e
    rfl
  | some ad =>
    rcases Nat.eq_zero_or_pos n with h0 | h0
    · subst h0
      obtain rfl : bs = [] := List.eq_nil_of_length_eq_zero hl.symm
      rfl
    · obtain ⟨b, off, e⟩ := h.addr h0
      cases e
      have := Lib.run_loadBytesX (P := P) w (nums bs) ⟨b, off, none⟩ .empty (fun j x hj => by
        have hj' : j < bs.length := by simpa [nums] using (List.getElem?_eq_some_iff.1 hj).1
        rw [Go.WideShapes.add_plain, h.at j hj']
        have : (bs[j].toNat : Int) = x := by simpa [nums, hj'] using hj
        rw [← this]
        simp [List.getD, hj'])
      rw [show (nums bs).length = n by simp [nums, hl]] at this
      rw [show Extern.Bytes.bytesOf (.slice (some ⟨b, off, none⟩) n c) = Extern.Bytes.loadBytes ⟨b, off, none⟩ n .empty from rfl, this]
      congr 1
      apply ByteArray.ext
      show (#[] : Array UInt8) ++ (u8s bs).toArray = (u8s bs).toArray
      simp
def cmpB (a b : List (BitVec 8)) : Int := Lib.compareBytes (u8s a) (u8s b)
theorem compareB_any (a a' : Option Addr) (n n' c c' : Nat) (x y : List (BitVec 8)) (w : World) (h : Bytes w (.slice a n c) x) (h' : Bytes w (.slice a' n' c') y) :
    Calls Try.prog 65 #[.slice a n c, .slice a' n' c'] w fun e w' => e = .returned (.int .i64 (cmpB x y)) ∧ w' = w := by
  have hcf : (callFunc 80 #[.slice a n c, .slice a' n' c']).run Try.prog w = .ok (.value (.int .i64 (cmpB x y))) w := by
    rw [run_callFunc_extern Try.func80 (by kernel_rfl) (by kernel_rfl) (by kernel_rfl) (e := Extern.BytealgCompare.compare) (by kernel_rfl)]
    have : (Extern.BytealgCompare.compare #[.slice a n c, .slice a' n' c']).run Try.prog w = .ok (.int .i64 (cmpB x y)) w := by
      change Sem.run Try.prog (do pure (goInt (Extern.BytealgCompare.cmp (← Extern.Bytes.bytesOf (.slice a n c)) (← Extern.Bytes.bytesOf (.slice a' n' c'))))) w = _
      simp only [Sem.run_bind, bytesOf_any h, bytesOf_any h', Sem.run_pure, Result.andThen]
      rw [Lib.cmp_eq]
      rfl
    rw [this]
    rfl
  clear h h'
  generalize cmpB x y = z at *
  go_enter Try.func65, Try.ntmps65
  go_wp2_with fail
  go_ret
  exact ⟨rfl, rfl⟩
theorem conv_any {w : World} {a : Option Addr} {n c : Nat} {bs : List (BitVec 8)} (h : Bytes w (.slice a n c) bs) : (convert 27 9 (.slice a n c)).run Try.prog w = .ok (.string ⟨(u8s bs).toArray⟩) w := by
  have hl := h.len
  rcases Nat.eq_zero_or_pos n with h0 | h0
  · subst h0
    obtain rfl : bs = [] := List.eq_nil_of_length_eq_zero hl.symm
    cases a with
    | none => exact run_convert_bytes_nil w 27 5 Try.underlying27 Try.underlying5 0 c 9 Try.underlying9
    | some ad =>
      rw [run_convert_bytes_string w 27 9 5 _ 0 c Try.underlying27 Try.underlying5 Try.underlying9]
      simp [Conv.bytesToString, loadCells]
      rfl
  · obtain ⟨b, off, rfl⟩ := h.addr h0
    have := run_convert_bytes_arg (P := Try.prog) w 27 5 Try.underlying27 Try.underlying5 b off n c (nums bs) (by simp [nums, hl]) (fun i hi => by
      have hi' : i < bs.length := by omega
      rw [h.at i hi']
      simp [nums, List.getD, hi']) 9 Try.underlying9
    rw [this]
    rfl
theorem cmp_swap : ∀ a b : List UInt8, Lib.compareBytes b a = - Lib.compareBytes a b
  | [], [] => rfl
  | [], _ :: _ => rfl
  | _ :: _, [] => rfl
  | a :: l1, b :: l2 => by
    have ih := cmp_swap l1 l2
    simp only [Lib.compareBytes]
    by_cases h1 : a < b
    · have h2 : ¬ b < a := UInt8.lt_asymm h1
      simp [h1, h2]
    · by_cases h2 : b < a
      · simp [h1, h2]
      · simp [h1, h2, ih]
theorem cmp_zero : ∀ a b : List UInt8, Lib.compareBytes a b = 0 ↔ a = b
  | [], [] => by simp [Lib.compareBytes]
  | [], _ :: _ => by simp [Lib.compareBytes]
  | _ :: _, [] => by simp [Lib.compareBytes]
  | a :: l1, b :: l2 => by
    have ih := cmp_zero l1 l2
    simp only [Lib.compareBytes]
    by_cases h1 : a < b
    · have : a ≠ b := fun e => UInt8.lt_irrefl b (e ▸ h1)
      simp [h1, this]
    · by_cases h2 : b < a
      · have : a ≠ b := fun e => UInt8.lt_irrefl b (e ▸ h2)
        simp [h1, h2, this]
      · have : a = b := UInt8.le_antisymm (UInt8.not_lt.1 h2) (UInt8.not_lt.1 h1)
        simp [ih, this]
theorem cmp_vals : ∀ a b : List UInt8, Lib.compareBytes a b = -1 ∨ Lib.compareBytes a b = 0 ∨ Lib.compareBytes a b = 1
  | [], [] => by simp [Lib.compareBytes]
  | [], _ :: _ => by simp [Lib.compareBytes]
  | _ :: _, [] => by simp [Lib.compareBytes]
  | a :: l1, b :: l2 => by
    have ih := cmp_vals l1 l2
    simp only [Lib.compareBytes]
    repeat' split
    all_goals simp_all
theorem cmp_lt : ∀ a b c : List UInt8, Lib.compareBytes a b = -1 → Lib.compareBytes b c = -1 → Lib.compareBytes a c = -1
  | [], [], c => by simp [Lib.compareBytes]
  | [], _ :: _, [] => by simp [Lib.compareBytes]
  | [], _ :: _, _ :: _ => by simp [Lib.compareBytes]
  | _ :: _, [], _ => by simp [Lib.compareBytes]
  | _ :: _, _ :: _, [] => by simp [Lib.compareBytes]
  | a :: l1, b :: l2, c :: l3 => by
    have ih := cmp_lt l1 l2 l3
    simp only [Lib.compareBytes]
    intro h1 h2
    by_cases x1 : a < b
    · by_cases x2 : b < c
      · simp [UInt8.lt_trans x1 x2]
      · by_cases x3 : c < b
        · simp [x2, x3] at h2
        · have : b = c := UInt8.le_antisymm (UInt8.not_lt.1 x3) (UInt8.not_lt.1 x2)
          subst this
          simp [x1]
    · by_cases x1' : b < a
      · simp [x1, x1'] at h1
      · have : a = b := UInt8.le_antisymm (UInt8.not_lt.1 x1') (UInt8.not_lt.1 x1)
        subst this
        by_cases x2 : a < c
        · simp [x2]
        · by_cases x3 : c < a
          · simp [x2, x3] at h2
          · simp only [x1, x2, x3, if_false] at h1 h2 ⊢
            exact ih h1 h2
theorem less_cmp : ∀ a b : List UInt8, Op.bytesLess a b = true ↔ Lib.compareBytes a b = -1
  | [], [] => by simp [Lib.compareBytes, Op.bytesLess]
  | [], _ :: _ => by simp [Lib.compareBytes, Op.bytesLess]
  | _ :: _, [] => by simp [Lib.compareBytes, Op.bytesLess]
  | a :: l1, b :: l2 => by
    have ih := less_cmp l1 l2
    simp only [Lib.compareBytes, Op.bytesLess]
    by_cases h1 : a < b
    · simp [h1]
    · by_cases h2 : b < a
      · have : a ≠ b := fun e => UInt8.lt_irrefl b (e ▸ h2)
        simp [h1, h2, this]
      · have : a = b := UInt8.le_antisymm (UInt8.not_lt.1 h2) (UInt8.not_lt.1 h1)
        simp [ih, this]
theorem u8s_inj {a b : List (BitVec 8)} (h : u8s a = u8s b) : a = b := by
  induction a generalizing b with
  | nil => cases b with
    | nil => rfl
    | cons y r => simp [u8s, nums, Lib.bytesOf] at h
  | cons x l ih => cases b with
    | nil => simp [u8s, nums, Lib.bytesOf] at h
    | cons y r =>
      simp only [u8s, nums, Lib.bytesOf, List.map_cons, List.cons.injEq, Int.toNat_natCast] at h
      have hx : x = y := by
        have := congrArg UInt8.toNat h.1
        have h1 := x.isLt
        have h2 := y.isLt
        simp only [UInt8.toNat_ofNat'] at this
        exact BitVec.eq_of_toNat_eq (by omega)
      rw [hx, ih h.2]
/-- An entry's key and number. -/
abbrev En := List (BitVec 8) × Nat
def cmpE (x y : En) : Int := if cmpB x.1 y.1 ≠ 0 then cmpB x.1 y.1 else if y.2 < x.2 then -1 else if x.2 < y.2 then 1 else 0
theorem cmpB_swap (a b : List (BitVec 8)) : cmpB b a = - cmpB a b := cmp_swap _ _
theorem cmpB_zero (a b : List (BitVec 8)) : cmpB a b = 0 ↔ a = b := (cmp_zero _ _).trans ⟨u8s_inj, fun e => by rw [e]⟩
theorem cmpB_vals (a b : List (BitVec 8)) : cmpB a b = -1 ∨ cmpB a b = 0 ∨ cmpB a b = 1 := cmp_vals _ _
theorem cmpB_lt {a b c : List (BitVec 8)} (h : cmpB a b = -1) (k : cmpB b c = -1) : cmpB a c = -1 := cmp_lt _ _ _ h k
theorem cmpE_swap (x y : En) : cmpE y x = - cmpE x y := by
  unfold cmpE
  rw [cmpB_swap x.1 y.1]
  have := cmpB_vals x.1 y.1
  generalize cmpB x.1 y.1 = z at *
  repeat' split
  all_goals omega
theorem cmpE_zero (x y : En) : cmpE x y = 0 ↔ x.1 = y.1 ∧ x.2 = y.2 := by
  unfold cmpE
  rw [← cmpB_zero]
  generalize cmpB x.1 y.1 = z at *
  repeat' split
  all_goals omega
theorem cmpE_trans (x y z : En) (h1 : cmpE x y ≤ 0) (h2 : cmpE y z ≤ 0) : cmpE x z ≤ 0 := by
  unfold cmpE at *
  have v1 := cmpB_vals x.1 y.1
  have v2 := cmpB_vals y.1 z.1
  have v3 := cmpB_vals x.1 z.1
  rcases v1 with e1 | e1 | e1
  · rcases v2 with e2 | e2 | e2
    · rw [cmpB_lt e1 e2, if_pos (by decide)]; decide
    · rw [(cmpB_zero _ _).1 e2] at e1
      rw [e1, if_pos (by decide)]; decide
    · rw [e2, if_pos (by decide)] at h2; exact absurd h2 (by decide)
  · have ex := (cmpB_zero _ _).1 e1
    rw [ex] at h1 ⊢
    rcases v2 with e2 | e2 | e2
    · rw [e2, if_pos (by decide)]; decide
    · have ez := (cmpB_zero _ _).1 e2
      rw [ez] at h1 h2 ⊢
      have e0 : cmpB z.1 z.1 = 0 := (cmpB_zero _ _).2 rfl
      rw [e0] at h1 h2 ⊢
      simp only [ne_eq, not_true, if_false] at h1 h2 ⊢
      repeat' split at h1
      all_goals repeat' split at h2
      all_goals repeat' split
      all_goals omega
    · rw [e2, if_pos (by decide)] at h2; exact absurd h2 (by decide)
  · rw [e1, if_pos (by decide)] at h1; exact absurd h1 (by decide)

def orN (x y : Int) : Int := if x ≠ 0 then x else y
def cmpN (x y : Nat) : Int := if x < y then -1 else if y < x then 1 else 0
theorem cmp64_any (x y : Nat) (w : World) : Calls Try.prog 62 #[.int .u64 x, .int .u64 y] w fun e w' => e = .returned (.int .i64 (cmpN x y)) ∧ w' = w := by
  go_enter Try.func62, Try.ntmps62
  go_wp2
  all_goals go_ret
  all_goals refine ⟨congrArg Ending.returned (congrArg (Value.int IntKind.i64) ?_), rfl⟩
  · rw [cmpN, if_pos (by omega)]
  · rw [cmpN, if_neg (by omega), if_pos (by omega)]
  · rw [cmpN, if_neg (by omega), if_neg (by omega)]
theorem alloc_keep {w : World} {a : Addr} {v : Value} (h : w.cell? a = some v) (o : Obj) : (w.alloc o).cell? a = some v :=
  (((Below.refl w.heap.size w).alloc (Nat.le_refl _) o).cell (block_lt_of_cell h)).trans h
end Go.Proofs.Ytkmcdjbadngfgaa

/-
  Whether bytes are the same; two writes in a row.
-/
namespace Go.Proofs.Ytkmcdjbadngfgaa
open Go.RowKit
set_option maxRecDepth 100000
set_option maxHeartbeats 1000000
theorem take_eq_succ {x y : List (BitVec 8)} {k : Nat} (h1 : k < x.length) (h2 : k < y.length) (h : x.take k = y.take k) (e : x[k] = y[k]) : x.take (k + 1) = y.take (k + 1) := by
  rw [List.take_succ_eq_append_getElem h1, List.take_succ_eq_append_getElem h2, h, e]
theorem bytes_any (a a' : Option Addr) (n n' c c' : Nat) (x y : List (BitVec 8)) (w : World) (h : Bytes w (.slice a n c) x) (h' : Bytes w (.slice a' n' c') y) (hn : n ≤ 1000000000) :
    Calls Try.prog 35 #[.slice a n c, .slice a' n' c'] w fun e w' => e = .returned (.bool (decide (x = y))) ∧ ∃ m, w' = w.drewN m := by
  have hl := h.len
  have hl' := h'.len
  have H := hide h
  have H' := hide h'
  have HL := hide hl
  have HL' := hide hl'
  clear h h' hl hl'
  by_cases hnn : n = n'
  · subst hnn
    go_enter Try.func35, Try.ntmps35
    go_wp2_with fail
    go_loopw [5] (fun i wr => ∃ k : Nat, i = .int .i64 (k : Nat) ∧ k ≤ n ∧ x.take k = y.take k ∧ ∃ m, wr = w.drewN m) (fun i _ => n - (intOf i).toNat)
    case atStart => exact ⟨0, rfl, Nat.zero_le _, rfl, 0, rfl⟩
    case round =>
      obtain ⟨k, rfl, hk, htk, m, rfl⟩ := hrel
      have HTK := hide htk
      clear htk
      by_cases hkn : k < n
      · obtain ⟨b, off, rfl⟩ := H.out.addr (by omega)
        obtain ⟨b', off', rfl⟩ := H'.out.addr (by omega)
        have hkx : k < x.length := by have := HL.out; omega
        have hky : k < y.length := by have := HL'.out; omega
        have h1 := H.out.at k hkx
        have h2 := H'.out.at k hky
        have e1 : x.getD k 0 = x[k] := by simp [List.getD, hkx]
        have e2 : y.getD k 0 = y[k] := by simp [List.getD, hky]
        rw [e1] at h1
        rw [e2] at h2
        have i1 : (k : Int) < (n : Int) := by omega
        have i0 : (0 : Int) ≤ (k : Int) := by omega
        clear e1 e2
        by_cases hxy : x[k] = y[k]
        · have HT2 := hide (take_eq_succ hkx hky HTK.out hxy)
          rw [← hxy] at h2
          generalize x[k].toNat = q at *
          clear hxy
          go_wp2_with fail
          go_quiet (fail)
          go_wp2
          go_roundw
          case rel => exact ⟨k + 1, by go_num, by omega, HT2.out, _, rfl⟩
          case measure => simp [intOf]; omega
        · have hne : x[k].toNat ≠ y[k].toNat := fun e => hxy (BitVec.eq_of_toNat_eq e)
          have hxn : ¬ x = y := fun e => hxy (by subst e; rfl)
          have HXN := hide hxn
          generalize x[k].toNat = q at *
          generalize y[k].toNat = q' at *
          have hne' : ¬ (q : Int) = (q' : Int) := by omega
          clear hxy hxn hne
          go_wp2_with fail
          go_quiet (fail)
          go_wp2
          go_ret
          exact ⟨congrArg Ending.returned (congrArg Value.bool (decide_eq_false HXN.out).symm), _, World.drewN_drewN _ _ _⟩
      · obtain rfl : k = n := by omega
        have hxy : x = y := by
          have := HTK.out
          rwa [List.take_of_length_le (by have := HL.out; omega), List.take_of_length_le (by have := HL'.out; omega)] at this
        have HXY := hide hxy
        clear hxy
        go_wp2
        go_ret
        exact ⟨congrArg Ending.returned (congrArg Value.bool (decide_eq_true HXY.out).symm), m, rfl⟩
  · have hnn' : ¬ (n : Int) = (n' : Int) := by omega
    have hxn : ¬ x = y := fun e => hnn (by rw [HL.out, HL'.out, e])
    have HXN := hide hxn
    clear hxn
    go_enter Try.func35, Try.ntmps35
    go_wp2_with fail
    go_ret
    exact ⟨congrArg Ending.returned (congrArg Value.bool (decide_eq_false HXN.out).symm), 0, rfl⟩
end Go.Proofs.Ytkmcdjbadngfgaa

/-
  One block turned.
-/
namespace Go.Proofs.Ytkmcdjbadngfgaa
open Go.RowKit
def Tick (w w' : World) (f : Nat) (t : TypeId) (cs : Array Value) : Prop :=
  w'.heap[f]? = some (.cells cs t (0, 0)) ∧ w'.heap.size = w.heap.size ∧ (∀ b, b ≠ f → w'.heap[b]? = w.heap[b]?) ∧ ∀ B, B ≤ f → Below B w w'
theorem Tick.refl {w : World} {f : Nat} {t : TypeId} {cs : Array Value} (h : w.heap[f]? = some (.cells cs t (0, 0))) : Tick w w f t cs := ⟨h, rfl, fun _ _ => rfl, fun _ _ => Below.refl _ _⟩
theorem Tick.set {w w' : World} {f : Nat} {t : TypeId} {cs : Array Value} (h : Tick w w' f t cs) (o : Nat) (v : Value) : Tick w (w'.setCell ⟨f, o, none⟩ v) f t (cs.setIfInBounds o v) := by
  obtain ⟨h1, h2, h3, h4⟩ := h
  exact ⟨heap_setCell_same w' f o cs t v h1, by rw [← h2]; simp, fun b hb => (heap_setCell_other _ _ _ _ (by exact hb)).trans (h3 b hb), fun B hB => (h4 B hB).setCell (by exact hB) v⟩
theorem Tick.cell {w w' : World} {f : Nat} {t : TypeId} {cs : Array Value} (h : Tick w w' f t cs) (o : Nat) : w'.cell? ⟨f, o, none⟩ = cs[o]? := cell_of_row w' f o cs t (0, 0) h.1
theorem Tick.frozen {w w' : World} {f : Nat} {t : TypeId} {cs : Array Value} (h : Tick w w' f t cs) (o : Nat) : w'.frozen? ⟨f, o, none⟩ = false := frozen_of_row w' f o cs t h.1
theorem Turns.of_tick {w w' : World} {f : Nat} {t : TypeId} {cs : Array Value} (h : Tick w w' f t cs) : Turns (fun k => k = f) w w' := by
  obtain ⟨h1, h2, h3, h4⟩ := h
  have hb := h4 0 (Nat.zero_le _)
  exact ⟨hb.os, hb.tape, hb.output, by omega, fun k _ hk => h3 k hk⟩
theorem Bytes.quiet {w w' : World} {v : Value} {bs : List (BitVec 8)} (h : Bytes w v bs) (t : Turns (fun _ => False) w w') : Bytes w' v bs := h.turns t fun _ _ _ _ x => x
end Go.Proofs.Ytkmcdjbadngfgaa

/-
  Copies of bytes, and of entries.
-/
namespace Go.Proofs.Ytkmcdjbadngfgaa
open Go.RowKit
set_option maxRecDepth 100000
set_option maxHeartbeats 4000000
theorem nil_eql (a : Option Addr) (n c : Nat) (w : World) : (binOp .eql 27 (.slice a n c) (.slice none 0 0)).run Try.prog w = .ok (.bool a.isNone) w := by
  cases a <;> kernel_rfl
theorem clone_any (a : Option Addr) (n c : Nat) (bs : List (BitVec 8)) (w : World) (h : Bytes w (.slice a n c) bs) (hn : n ≤ 1000000) :
    Calls Try.prog 48 #[.slice a n c] w fun e w' => ∃ a' c', e = .returned (.slice a' n c') ∧ Bytes w' (.slice a' n c') bs ∧ (∀ x, a' = some x → w.heap.size ≤ x.block ∧ x.block < w'.heap.size) ∧ Below w.heap.size w w' := by
  have hl := h.len
  cases a with
  | none =>
    obtain rfl : n = 0 := by
      rcases Nat.eq_zero_or_pos n with h0 | h0
      · exact h0
      · obtain ⟨_, _, e⟩ := h.addr h0; cases e
    obtain rfl : bs = [] := List.eq_nil_of_length_eq_zero hl.symm
    clear h hl
    have he : (binOp .eql 27 (.slice none 0 c) (.slice none 0 0)).run Try.prog w = .ok (.bool true) w := nil_eql none 0 c w
    go_enter Try.func48, Try.ntmps48
    go_wp2_with fail
    go_ret
    exact ⟨none, 0, rfl, Bytes.empty _, fun x e => (by cases e), Below.refl _ _⟩
  | some ad =>
    have hb : Below w.heap.size w (w.alloc (.cells #[] 5)) := (Below.refl _ _).alloc (Nat.le_refl _) _
    obtain ⟨g, c2, w2, hr, hg, hrow, hb2, hc, _⟩ := append_bytes2 (w.alloc (.cells #[] 5)) w.heap.size (some ⟨w.heap.size, 0, none⟩) 0 0 [] rfl (.slice (some ad) n c) bs n hl (h.below hb) (by simp)
      (.inr ⟨_, rfl, Nat.le_refl _, Nat.le_refl _, #[], heap_alloc_new w _, Nat.le_refl _, fun k hk => by simp [cellsOf] at hk⟩) (by omega)
    rw [Nat.zero_add] at hr hc
    rw [List.nil_append] at hrow
    have HR := hide hr
    have HW := hide (RowB.bytes (c' := c2) hrow hl)
    have HB := hide (hb.trans hb2)
    have HG := hide (show g < w2.heap.size by obtain ⟨cs, h1, _⟩ := hrow; exact lt_of_heap h1)
    clear hr hrow hb hb2 h hl
    have he : (binOp .eql 27 (.slice (some ad) n c) (.slice none 0 0)).run Try.prog w = .ok (.bool false) w := nil_eql (some ad) n c w
    go_enter Try.func48, Try.ntmps48
    go_wp2_with (at_builtin; refine wpList_append_run rfl _ _ 27 rfl (.slice (some ⟨w.heap.size, 0, none⟩) 0 0) (.slice (some ad) n c) rfl rfl _ _ (HR.out _) ?_)
    go_ret
    exact ⟨_, c2, rfl, HW.out, fun x e => by cases e; exact ⟨hg, HG.out⟩, HB.out⟩
end Go.Proofs.Ytkmcdjbadngfgaa
