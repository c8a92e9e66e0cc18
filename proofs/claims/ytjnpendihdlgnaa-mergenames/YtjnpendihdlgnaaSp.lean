/-
  What is seen, as plain mathematics; bytes.Equal; seen.
-/
import Derived.Test.YtjnpendihdlgnaaLw
namespace Go.Proofs.Ytjnpendihdlgnaa
open Go.RowKit Go.Shelf
set_option maxRecDepth 100000
set_option maxHeartbeats 4000000
abbrev Ky := List (BitVec 8)
/-- Is an entry passed by? -/
def skipIt (seq : Nat) (k : Option Ky) (x : Ent) : Bool := decide (seq < x.seq) || (match k with | some k => decide (x.key = k) | none => false)
def seenO (seq : Nat) : Option Ky → List Ent → List Ent
  | _, [] => []
  | k, x :: r => if skipIt seq k x = true then seenO seq k r else if x.kind = 1 then x :: seenO seq (some x.key) r else seenO seq (some x.key) r
def seenK (seq : Nat) : Option Ky → List Ent → Option Ky
  | k, [] => k
  | k, x :: r => if skipIt seq k x = true then seenK seq k r else seenK seq (some x.key) r
theorem seenO_append (seq : Nat) : ∀ (a b : List Ent) (k : Option Ky), seenO seq k (a ++ b) = seenO seq k a ++ seenO seq (seenK seq k a) b
  | [], b, k => rfl
  | x :: a, b, k => by
    have ih := fun k => seenO_append seq a b k
    simp only [List.cons_append, seenO, seenK, ih]
    repeat' split
    all_goals rfl
theorem seenK_append (seq : Nat) : ∀ (a b : List Ent) (k : Option Ky), seenK seq k (a ++ b) = seenK seq (seenK seq k a) b
  | [], b, k => rfl
  | x :: a, b, k => by
    have ih := fun k => seenK_append seq a b k
    simp only [List.cons_append, seenK, ih]
    split <;> rfl
theorem seenO_length (seq : Nat) : ∀ (a : List Ent) (k : Option Ky), (seenO seq k a).length ≤ a.length
  | [], k => Nat.le_refl _
  | x :: a, k => by
    have ih := fun k => seenO_length seq a k
    simp only [seenO]
    repeat' split
    · have := ih k; simp only [List.length_cons]; omega
    · have := ih (some x.key); simp only [List.length_cons]; omega
    · have := ih (some x.key); simp only [List.length_cons]; omega
theorem equal_any (a a' : Option Addr) (n n' c c' : Nat) (x y : List (BitVec 8)) (w : World) (h : Bytes w (.slice a n c) x) (h' : Bytes w (.slice a' n' c') y) :
    Calls Try.prog 56 #[.slice a n c, .slice a' n' c'] w fun e w' => e = .returned (.bool (decide (x = y))) ∧ w' = w := by
  have h1 := conv_any h
  have h2 := conv_any h'
  have hd : (u8s x == u8s y) = decide (x = y) := by
    by_cases e : x = y
    · simp [e]
    · have : ¬ u8s x = u8s y := fun e2 => e (u8s_inj e2)
      simp [e, this]
  rw [← hd]
  clear h h' hd
  go_enter Try.func56, Try.ntmps56
  go_wp2_with fail
  go_ret
  exact ⟨rfl, rfl⟩
theorem seen_any (seq : Nat) (a : Option Addr) (n c : Nat) (w : World) : Calls Try.prog 39 #[.int .u64 (seq : Nat), .slice a n c] w fun e w' => e = .returned (.func (.func 55) #[] #[.pointer (some ⟨w.heap.size + 1, 0, none⟩), .pointer (some ⟨w.heap.size, 0, none⟩)]) ∧ w' = (w.alloc (.cells #[.int .u64 (seq : Nat)] 23)).alloc (.cells #[.slice a n c] 28) := by
  go_enter Try.func39, Try.ntmps39
  go_wp2_with fail
  go_ret
  exact ⟨rfl, rfl⟩
/-- The types of the cells of what is seen. -/
def TS : TypeId → Prop := fun t => TM t ∨ t = 22 ∨ t = 4 ∨ t = 75
theorem far_TS : Far TS := by
  have h : ∀ t : TypeId, ¬ TM t → t ≠ 22 → t ≠ 4 → t ≠ 75 → ¬ TS t := fun t h1 h2 h3 h4 h => by
    rcases h with h | h | h | h
    · exact h1 h
    · exact h2 h
    · exact h3 h
    · exact h4 h
  exact ⟨h _ far_TM.h3 (by decide) (by decide) (by decide), h _ far_TM.h5 (by decide) (by decide) (by decide), h _ far_TM.h25 (by decide) (by decide) (by decide), h _ far_TM.h27 (by decide) (by decide) (by decide)⟩
theorem loose_TM {B B' : Nat} {A : World} {k : Nat} (hB : B' ≤ B) (h : Loose TM B A k) : Loose TS B' A k := by
  obtain ⟨h1, o, h2, h3⟩ := h
  refine ⟨Nat.le_trans hB h1, o, h2, ?_⟩
  rcases h3 with h3 | ⟨cs, t, fr, h4, h5⟩
  · exact .inl h3
  · exact .inr ⟨cs, t, fr, .inl h4, h5⟩
theorem kpM_of_kpT {B : Nat} {W W' : World} (h : KpT TS B W W') : KpM B W W' := h.mono fun _ _ hk => ⟨hk.1, fun ⟨cs, t, fr, h1, h2⟩ => hk.2 ⟨cs, t, fr, .inl h1, h2⟩⟩
theorem OwnX.lower {β : Type} {B B' : Nat} {J : β → World → Prop} (h : OwnX TS B' J) (hB : B' ≤ B) : OwnX TM B J := fun s A A' hj t => h s A A' hj (t.mono fun _ _ hk => loose_TM hB hk)
end Go.Proofs.Ytjnpendihdlgnaa
