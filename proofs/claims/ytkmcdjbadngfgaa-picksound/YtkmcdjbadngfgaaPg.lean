/-
  Keys that are closed: pure.
-/
import Derived.Test.YtkmcdjbadngfgaaPf
namespace Go.Proofs.Ytkmcdjbadngfgaa
set_option maxRecDepth 100000
set_option maxHeartbeats 4000000
def cle (a b : List (BitVec 8)) : Prop := cmpB a b ≤ 0
theorem cle_refl (a : List (BitVec 8)) : cle a a := by unfold cle; rw [(cmpB_zero a a).2 rfl]; exact Int.le_refl 0
theorem cle_iff (a b : List (BitVec 8)) : cle a b ↔ 0 ≤ cmpB b a := by unfold cle; rw [cmpB_swap a b]; omega
theorem cle_total (a b : List (BitVec 8)) : cle a b ∨ cle b a := by
  rw [cle_iff b a]; unfold cle; omega
theorem cle_trans {a b c : List (BitVec 8)} (h : cle a b) (k : cle b c) : cle a c := by
  unfold cle at *
  rcases cmpB_vals a b with h1 | h1 | h1
  · rcases cmpB_vals b c with h2 | h2 | h2
    · rw [cmpB_lt h1 h2]; decide
    · rw [← (cmpB_zero b c).1 h2, h1]; decide
    · omega
  · rw [(cmpB_zero a b).1 h1]; exact k
  · omega
theorem cle_antisymm {a b : List (BitVec 8)} (h : cle a b) (k : cle b a) : a = b := by
  rw [cle_iff b a] at k
  unfold cle at h
  exact (cmpB_zero a b).1 (by omega)
theorem hoK_iff {lo hi : List (BitVec 8)} {f : Fl} : hoK lo hi f = true ↔ cle lo f.least ∧ cle f.most hi := by
  unfold hoK
  rw [Bool.and_eq_true, decide_eq_true_iff, decide_eq_true_iff, cle_iff lo]
  rfl
theorem ovK_iff {lo hi : List (BitVec 8)} {f : Fl} : ovK lo hi f = true ↔ cle lo f.most ∧ cle f.least hi := by
  unfold ovK
  rw [Bool.and_eq_true, decide_eq_true_iff, decide_eq_true_iff, cle_iff lo]
  rfl
/-- Whatever overlaps these keys is held by them. -/
def Closed (l : List Fl) (lo hi : List (BitVec 8)) : Prop := ∀ f ∈ l, ovK lo hi f = true → hoK lo hi f = true
structure Gat (l : List Fl) (f0 : Fl) (lo hi : List (BitVec 8)) : Prop where
  lom : ∃ f ∈ l, lo = f.least
  him : ∃ f ∈ l, hi = f.most
  hold : cle lo f0.least ∧ cle f0.most hi
  least : ∀ lo' hi', Closed l lo' hi' → cle lo' f0.least → cle f0.most hi' → cle lo' lo ∧ cle hi hi'
theorem Gat.start {l : List Fl} {f0 : Fl} (h : f0 ∈ l) : Gat l f0 f0.least f0.most := ⟨⟨f0, h, rfl⟩, ⟨f0, h, rfl⟩, ⟨cle_refl _, cle_refl _⟩, fun _ _ _ h1 h2 => ⟨h1, h2⟩⟩
def minB (f : Fl) (lo : List (BitVec 8)) : List (BitVec 8) := if cmpB f.least lo < 0 then f.least else lo
def maxB (f : Fl) (hi : List (BitVec 8)) : List (BitVec 8) := if 0 < cmpB f.most hi then f.most else hi
theorem withK_lo (k : Kk) (x : Tf) : (withK k x).lo = minB x.f k.lo := rfl
theorem withK_hi (k : Kk) (x : Tf) : (withK k x).hi = maxB x.f k.hi := rfl
theorem minB_le (f : Fl) (lo : List (BitVec 8)) : cle (minB f lo) lo ∧ cle (minB f lo) f.least := by
  unfold minB
  split
  · next h => exact ⟨by unfold cle; omega, cle_refl _⟩
  · next h => exact ⟨cle_refl _, by rw [cle_iff]; omega⟩
theorem maxB_le (f : Fl) (hi : List (BitVec 8)) : cle hi (maxB f hi) ∧ cle f.most (maxB f hi) := by
  unfold maxB
  split
  · next h => exact ⟨by rw [cle_iff]; omega, cle_refl _⟩
  · next h => exact ⟨cle_refl _, by unfold cle; omega⟩
theorem Gat.step {l : List Fl} {f0 f : Fl} {lo hi : List (BitVec 8)} (h : Gat l f0 lo hi) (hf : f ∈ l) (ho : ovK lo hi f = true) : Gat l f0 (minB f lo) (maxB f hi) := by
  obtain ⟨m1, m2⟩ := minB_le f lo
  obtain ⟨x1, x2⟩ := maxB_le f hi
  rw [ovK_iff] at ho
  refine ⟨?_, ?_, ⟨cle_trans m1 h.hold.1, cle_trans h.hold.2 x1⟩, fun lo' hi' hc h1 h2 => ?_⟩
  · unfold minB; split
    · exact ⟨f, hf, rfl⟩
    · exact h.lom
  · unfold maxB; split
    · exact ⟨f, hf, rfl⟩
    · exact h.him
  · obtain ⟨a1, a2⟩ := h.least lo' hi' hc h1 h2
    obtain ⟨b1, b2⟩ := hoK_iff.1 (hc f hf (ovK_iff.2 ⟨cle_trans a1 ho.1, cle_trans ho.2 a2⟩))
    unfold minB maxB
    exact ⟨by split <;> assumption, by split <;> assumption⟩
theorem countP_lt {α : Type} {p q : α → Bool} : ∀ {l : List α} {x : α}, (∀ y, q y = true → p y = true) → x ∈ l → p x = true → q x = false → l.countP q < l.countP p
  | [], _, _, h, _, _ => by cases h
  | a :: r, x, hm, h, hp, hq => by
    rw [List.countP_cons, List.countP_cons]
    have hle : r.countP q ≤ r.countP p := List.countP_mono_left fun y _ hy => hm y hy
    rcases List.mem_cons.1 h with rfl | h
    · rw [hp, hq]
      simp only [Bool.false_eq_true, if_false, if_true]
      omega
    · have := countP_lt hm h hp hq
      have : q a = true → p a = true := hm a
      cases hqa : q a <;> cases hpa : p a <;> simp_all <;> omega
def unheld (l : List Fl) (lo hi : List (BitVec 8)) : Nat := l.countP fun f => !hoK lo hi f
theorem unheld_lt {l : List Fl} {f : Fl} {lo hi : List (BitVec 8)} (hf : f ∈ l) (hh : hoK lo hi f = false) : unheld l (minB f lo) (maxB f hi) < unheld l lo hi := by
  obtain ⟨m1, m2⟩ := minB_le f lo
  obtain ⟨x1, x2⟩ := maxB_le f hi
  refine countP_lt (fun y hy => ?_) hf (by simp [hh]) ?_
  · simp only [Bool.not_eq_eq_eq_not, Bool.not_true] at hy ⊢
    cases hq : hoK lo hi y with
    | false => rfl
    | true =>
      obtain ⟨a1, a2⟩ := hoK_iff.1 hq
      rw [hoK_iff.2 ⟨cle_trans m1 a1, cle_trans a2 x1⟩] at hy
      cases hy
  · rw [hoK_iff.2 ⟨m2, x2⟩]; rfl
/-- Keys that are files' own. -/
def Kof (l : List Tf) (k : Kk) : Prop := ∃ x ∈ l, ∃ y ∈ l, k = ⟨x.la, x.lc, y.ma, y.mc, x.f.least, y.f.most⟩
theorem Kof.kb {w : World} {a : Option Addr} {l : List Tf} {k : Kk} (h : Kof l k) (hf : Fils w a l) : KB w k := by
  obtain ⟨x, hx, y, hy, rfl⟩ := h
  obtain ⟨i, hi⟩ := List.getElem?_of_mem hx
  obtain ⟨j, hj⟩ := List.getElem?_of_mem hy
  exact ⟨(hf i x hi).2.1, (hf j y hj).2.2⟩
theorem Kof.with {l : List Tf} {k : Kk} {z : Tf} (h : Kof l k) (hz : z ∈ l) : Kof l (withK k z) := by
  obtain ⟨x, hx, y, hy, rfl⟩ := h
  unfold withK
  simp only
  by_cases h1 : cmpB z.f.least x.f.least < 0 <;> by_cases h2 : 0 < cmpB z.f.most y.f.most <;> simp only [h1, h2, if_true, if_false]
  · exact ⟨z, hz, z, hz, rfl⟩
  · exact ⟨z, hz, y, hy, rfl⟩
  · exact ⟨x, hx, z, hz, rfl⟩
  · exact ⟨x, hx, y, hy, rfl⟩
end Go.Proofs.Ytkmcdjbadngfgaa
