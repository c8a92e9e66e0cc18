/-
  The same frames are found the same.
-/
import Derived.Test.YtpighnknldhigaaKit
namespace Go.Proofs.Ytpighnknldhigaa
open Go.RowKit

/-- A list of frames, wherever it lies. -/
def Frs (w : World) (v : Value) (fs : List Frm) : Prop :=
  ∃ (a : Option Addr) (c : Nat), v = .slice a fs.length c ∧ ∀ (k : Nat) (f : Frm), fs[k]? = some f → ∃ b off, a = some ⟨b, off, none⟩ ∧ w.cell? ⟨b, off + k * 2, none⟩ = some (.int .u8 f.1.toNat) ∧ ∃ (a' : Option Addr) (c' : Nat), w.cell? ⟨b, off + k * 2 + 1, none⟩ = some (.slice a' f.2.length c') ∧ Bytes w (.slice a' f.2.length c') f.2

/-- A list of one's own is such a list. -/
theorem Lst.frs {w : World} {B : Nat} {v : Value} {fs : List Frm} (h : Lst w B v fs) : Frs w v fs := by
  rcases h with ⟨rfl, rfl⟩ | ⟨g, c, ps, rfl, _, _, hps, ⟨cs, r1, _, r3⟩, hb⟩
  · exact ⟨_, 0, rfl, fun k f hf => by simp at hf⟩
  · refine ⟨_, c, rfl, fun k f hf => ⟨g, 0, rfl, ?_⟩⟩
    have hk : k < fs.length := by
      rcases Nat.lt_or_ge k fs.length with h | h
      · exact h
      · rw [List.getElem?_eq_none h] at hf; cases hf
    have hp : ps[k]? = some ps[k] := List.getElem?_eq_getElem (by omega)
    obtain ⟨e1, g', c', e2, e3, e4⟩ := hb k f _ hf hp
    obtain ⟨q1, q2⟩ := cellsF_at ps k _ hp
    have hl := cellsF_length ps
    refine ⟨?_, some ⟨g', 0, none⟩, c', ?_, RowB.bytes e4 rfl⟩
    · rw [Nat.zero_add, cell_of_row w g _ cs 27 (0, 0) r1, r3 _ (by omega), Nat.mul_comm k 2, q1, e1]
    · rw [Nat.zero_add, cell_of_row w g _ cs 27 (0, 0) r1, r3 _ (by omega), Nat.mul_comm k 2, q2, e2]

theorem Bytes.drewN {w : World} {v : Value} {bs : List (BitVec 8)} (h : Bytes w v bs) (m : Nat) : Bytes (w.drewN m) v bs := h

set_option maxRecDepth 100000 in
set_option maxHeartbeats 2000000 in
theorem frames_same (a a' : Option Addr) (n c c' : Nat) (fs : List Frm) (w : World) (h : Frs w (.slice a n c) fs) (h' : Frs w (.slice a' n c') fs) (hn : n ≤ 1000000000) (hb : ∀ f ∈ fs, f.2.length ≤ 1000000000) :
    Calls Try.prog 16 #[.slice a n c, .slice a' n c'] w fun e w' => e = .returned (.bool true) ∧ ∃ m, w' = w.drewN m := by
  have hl : n = fs.length := by obtain ⟨_, _, e, _⟩ := h; cases e; rfl
  have H := hide h
  have H' := hide h'
  have HL := hide hl
  have HB := hide hb
  clear h h' hl hb
  go_enter Try.func16, Try.ntmps16
  go_wp2
  go_loopw [5] (fun i wr => ∃ k : Nat, i = .int .i64 (k : Nat) ∧ k ≤ n ∧ ∃ m, wr = w.drewN m) (fun i _ => n - (intOf i).toNat)
  case atStart => exact ⟨0, rfl, Nat.zero_le _, 0, rfl⟩
  case round =>
    obtain ⟨k, rfl, hk, m, rfl⟩ := hrel
    by_cases hkn : k < n
    · have hkf : k < fs.length := by have := HL.out; omega
      obtain ⟨a1, c1, e1, g1⟩ := H.out
      obtain ⟨a2, c2, e2, g2⟩ := H'.out
      cases e1
      cases e2
      obtain ⟨b, off, rfl, x1, ba, bc, x2, x3⟩ := g1 k fs[k] (List.getElem?_eq_getElem hkf)
      obtain ⟨b', off', rfl, y1, ba', bc', y2, y3⟩ := g2 k fs[k] (List.getElem?_eq_getElem hkf)
      have hle := HB.out fs[k] (List.getElem_mem hkf)
      generalize fs[k] = f at *
      obtain ⟨kd, body⟩ := f
      simp only at *
      have X3 : Hid (Bytes (w.drewN m) (.slice ba body.length bc) body) := x3
      have Y3 : Hid (Bytes (w.drewN m) (.slice ba' body.length bc') body) := y3
      have z1 : (w.drewN m).cell? ⟨b, off + k * 2, none⟩ = some (.int .u8 kd.toNat) := x1
      have z2 : (w.drewN m).cell? ⟨b, off + k * 2 + 1, none⟩ = some (.slice ba body.length bc) := x2
      have t1 : (w.drewN m).cell? ⟨b', off' + k * 2, none⟩ = some (.int .u8 kd.toNat) := y1
      have t2 : (w.drewN m).cell? ⟨b', off' + k * 2 + 1, none⟩ = some (.slice ba' body.length bc') := y2
      clear x1 x2 x3 y1 y2 y3 g1 g2
      generalize hwm : w.drewN m = wm at *
      have HWM := hide hwm
      clear hwm
      generalize hbl : body.length = bl at *
      have HBL := hide hbl
      clear hbl
      have i1 : (k : Int) < (fs.length : Int) := by omega
      have i0 : (0 : Int) ≤ (k : Int) := by omega
      have d0 : ((kd.toNat : Int) != (kd.toNat : Int)) = false := by simp
      go_wp2_with fail
      go_quiet (first | (go_at_call 15; refine Calls.quiet_of (bytes_same ba ba' bl bc bc' body _ X3.out Y3.out hle)))
      go_wp2
      go_roundw
      case rel => exact ⟨k + 1, by go_num, by omega, _, by rw [← HWM.out, World.drewN_drewN]⟩
      case measure => simp [intOf]; omega
    · obtain rfl : k = n := by omega
      go_wp2
      go_ret
      exact ⟨rfl, m, rfl⟩
end Go.Proofs.Ytpighnknldhigaa
