/-
  Writes in memory; whether some write is wrong, or too long.
-/
import Derived.Test.YtkeglaplckfllaaLf
namespace Go.Proofs.Ytkeglaplckfllaa
open Go.RowKit
set_option maxRecDepth 100000
set_option maxHeartbeats 4000000
/-- A list of writes in memory. -/
def Wrs (w : World) (v : Value) (xs : List Wr) : Prop :=
  ∃ (a : Option Addr) (c : Nat), v = .slice a xs.length c ∧ ∀ k x, xs[k]? = some x → ∃ b off, a = some ⟨b, off, none⟩ ∧ w.cell? ⟨b, off + k * 3, none⟩ = some (.int .i64 x.1) ∧
    ∃ (ka : Option Addr) (kc : Nat) (va : Option Addr) (vc : Nat), w.cell? ⟨b, off + k * 3 + 1, none⟩ = some (.slice ka x.2.1.length kc) ∧ w.cell? ⟨b, off + k * 3 + 2, none⟩ = some (.slice va x.2.2.length vc) ∧
      Bytes w (.slice ka x.2.1.length kc) x.2.1 ∧ Bytes w (.slice va x.2.2.length vc) x.2.2
theorem Wrs.below {w w' : World} {v : Value} {xs : List Wr} (h : Wrs w v xs) (hb : Below w.heap.size w w') : Wrs w' v xs := by
  obtain ⟨a, c, rfl, hx⟩ := h
  refine ⟨a, c, rfl, fun k f hf => ?_⟩
  obtain ⟨b, off, rfl, y0, ka, kc, va, vc, y1, y2, y3, y4⟩ := hx k f hf
  exact ⟨b, off, rfl, (hb.cell (block_lt_of_cell y0)).trans y0, ka, kc, va, vc, (hb.cell (block_lt_of_cell y1)).trans y1, (hb.cell (block_lt_of_cell y2)).trans y2, y3.below hb, y4.below hb⟩
theorem Wrs.len {w : World} {a : Option Addr} {n c : Nat} {xs : List Wr} (h : Wrs w (.slice a n c) xs) : n = xs.length := by
  obtain ⟨_, _, e, _⟩ := h
  cases e
  rfl
/-- The write at a place. -/
theorem Wrs.at {w : World} {a : Option Addr} {n c : Nat} {xs : List Wr} (h : Wrs w (.slice a n c) xs) (k : Nat) (hk : k < xs.length) : ∃ b off, a = some ⟨b, off, none⟩ ∧ w.cell? ⟨b, off + k * 3, none⟩ = some (.int .i64 xs[k].1) ∧
    ∃ (ka : Option Addr) (kc : Nat) (va : Option Addr) (vc : Nat), w.cell? ⟨b, off + k * 3 + 1, none⟩ = some (.slice ka xs[k].2.1.length kc) ∧ w.cell? ⟨b, off + k * 3 + 2, none⟩ = some (.slice va xs[k].2.2.length vc) ∧
      Bytes w (.slice ka xs[k].2.1.length kc) xs[k].2.1 ∧ Bytes w (.slice va xs[k].2.2.length vc) xs[k].2.2 := by
  obtain ⟨_, _, e, hx⟩ := h
  cases e
  exact hx k xs[k] (List.getElem?_eq_getElem hk)

theorem index_wrong (a : Option Addr) (n c : Nat) (xs : List Wr) (w : World) (h : Wrs w (.slice a n c) xs) (hn : n ≤ 140737488355328) :
    Calls Try.prog 66 #[.slice a n c, .func (.func 61) #[] #[]] w fun e w' => ∃ z : Int, e = .returned (.int .i64 z) ∧ (0 ≤ z ↔ xs.any wrongW = true) ∧ Below w.heap.size w w' := by
  have hl := h.len
  have H := hide h
  have HL := hide hl
  clear h hl
  go_enter Try.func66, Try.ntmps66
  go_wp2_with fail
  go_loopw [8] (fun i wr => ∃ k : Nat, i = .int .i64 (k : Nat) ∧ k ≤ n ∧ (xs.take k).any wrongW = false ∧ Below w.heap.size w wr) (fun i _ => n - (intOf i).toNat)
  case atStart => exact ⟨0, rfl, Nat.zero_le _, rfl, Below.refl _ _⟩
  case round =>
    obtain ⟨k, rfl, hk, hno, hb⟩ := hrel
    have HNO := hide hno
    have HB := hide hb
    clear hno
    by_cases hkn : k < n
    · have hkf : k < xs.length := by have := HL.out; omega
      have HW := hide (H.out.below hb)
      obtain ⟨b, off, rfl, y0, ka, kc, va, vc, y1, y2, _, _⟩ := HW.out.at k hkf
      have i1 : (k : Int) < (n : Int) := by omega
      have i0 : (0 : Int) ≤ (k : Int) := by omega
      have htk : (xs.take (k + 1)).any wrongW = wrongW xs[k] := by
        rw [List.take_succ_eq_append_getElem hkf, List.any_append, HNO.out]
        simp
      have HTK := hide htk
      have hany : wrongW xs[k] = true → xs.any wrongW = true := fun e => List.any_eq_true.2 ⟨xs[k], List.getElem_mem hkf, e⟩
      have HANY := hide hany
      clear htk hany hb
      generalize hx : xs[k] = x at *
      have HX := hide hx
      clear hx
      obtain ⟨kd, key, val⟩ := x
      simp only at y0 y1 y2
      go_wp2_with fail
      refine (isWrong_any kd ka va key.length kc val.length vc _ (kd, key, val) rfl rfl rfl).mono ?_
      rintro e w1 ⟨rfl, b1⟩
      have B1 := hide (then_below HB.out b1 (Nat.le_refl _))
      clear b1
      generalize hq : wrongW (kd, key, val) = q at *
      have HQ := hide hq
      clear hq
      cases q
      · go_wp2_with fail
        go_roundw
        case rel => exact ⟨k + 1, by go_num, by omega, HTK.out, B1.out⟩
        case measure => simp [intOf]; omega
      · go_wp2_with fail
        go_ret
        exact ⟨_, rfl, ⟨fun _ => HANY.out trivial, fun _ => by omega⟩, B1.out⟩
    · obtain rfl : k = n := by omega
      have ht : xs.take k = xs := List.take_of_length_le (by have := HL.out; omega)
      go_wp2_with fail
      go_ret
      refine ⟨_, rfl, ⟨fun h => by omega, fun h => ?_⟩, HB.out⟩
      have := HNO.out
      rw [ht, h] at this
      cases this
theorem contains_wrong (a : Option Addr) (n c : Nat) (xs : List Wr) (w : World) (h : Wrs w (.slice a n c) xs) (hn : n ≤ 140737488355328) :
    Calls Try.prog 60 #[.slice a n c, .func (.func 61) #[] #[]] w fun e w' => e = .returned (.bool (xs.any wrongW)) ∧ Below w.heap.size w w' := by
  go_enter Try.func60, Try.ntmps60
  go_wp2_with fail
  refine (index_wrong a n c xs _ h hn).mono ?_
  rintro e w1 ⟨z, rfl, hz, b1⟩
  have HZ := hide hz
  have B1 := hide b1
  clear hz b1 h
  go_wp2_with fail
  go_ret
  refine ⟨congrArg Ending.returned (congrArg Value.bool (Bool.eq_iff_iff.2 ?_)), B1.out⟩
  rw [← HZ.out]
  simp
theorem index_long (a : Option Addr) (n c : Nat) (xs : List Wr) (w : World) (h : Wrs w (.slice a n c) xs) (hn : n ≤ 140737488355328) :
    Calls Try.prog 66 #[.slice a n c, .func (.func 68) #[] #[]] w fun e w' => ∃ z : Int, e = .returned (.int .i64 z) ∧ (0 ≤ z ↔ xs.any longW = true) ∧ Below w.heap.size w w' := by
  have hl := h.len
  have H := hide h
  have HL := hide hl
  clear h hl
  go_enter Try.func66, Try.ntmps66
  go_wp2_with fail
  go_loopw [8] (fun i wr => ∃ k : Nat, i = .int .i64 (k : Nat) ∧ k ≤ n ∧ (xs.take k).any longW = false ∧ Below w.heap.size w wr) (fun i _ => n - (intOf i).toNat)
  case atStart => exact ⟨0, rfl, Nat.zero_le _, rfl, Below.refl _ _⟩
  case round =>
    obtain ⟨k, rfl, hk, hno, hb⟩ := hrel
    have HNO := hide hno
    have HB := hide hb
    clear hno
    by_cases hkn : k < n
    · have hkf : k < xs.length := by have := HL.out; omega
      have HW := hide (H.out.below hb)
      obtain ⟨b, off, rfl, y0, ka, kc, va, vc, y1, y2, _, _⟩ := HW.out.at k hkf
      have i1 : (k : Int) < (n : Int) := by omega
      have i0 : (0 : Int) ≤ (k : Int) := by omega
      have htk : (xs.take (k + 1)).any longW = longW xs[k] := by
        rw [List.take_succ_eq_append_getElem hkf, List.any_append, HNO.out]
        simp
      have HTK := hide htk
      have hany : longW xs[k] = true → xs.any longW = true := fun e => List.any_eq_true.2 ⟨xs[k], List.getElem_mem hkf, e⟩
      have HANY := hide hany
      clear htk hany hb
      generalize hx : xs[k] = x at *
      have HX := hide hx
      clear hx
      obtain ⟨kd, key, val⟩ := x
      simp only at y0 y1 y2
      go_wp2_with fail
      refine (hasLong_any kd ka va key.length kc val.length vc _ (kd, key, val) rfl rfl).mono ?_
      rintro e w1 ⟨rfl, b1⟩
      have B1 := hide (then_below HB.out b1 (Nat.le_refl _))
      clear b1
      generalize hq : longW (kd, key, val) = q at *
      have HQ := hide hq
      clear hq
      cases q
      · go_wp2_with fail
        go_roundw
        case rel => exact ⟨k + 1, by go_num, by omega, HTK.out, B1.out⟩
        case measure => simp [intOf]; omega
      · go_wp2_with fail
        go_ret
        exact ⟨_, rfl, ⟨fun _ => HANY.out trivial, fun _ => by omega⟩, B1.out⟩
    · obtain rfl : k = n := by omega
      have ht : xs.take k = xs := List.take_of_length_le (by have := HL.out; omega)
      go_wp2_with fail
      go_ret
      refine ⟨_, rfl, ⟨fun h => by omega, fun h => ?_⟩, HB.out⟩
      have := HNO.out
      rw [ht, h] at this
      cases this
theorem contains_long (a : Option Addr) (n c : Nat) (xs : List Wr) (w : World) (h : Wrs w (.slice a n c) xs) (hn : n ≤ 140737488355328) :
    Calls Try.prog 60 #[.slice a n c, .func (.func 68) #[] #[]] w fun e w' => e = .returned (.bool (xs.any longW)) ∧ Below w.heap.size w w' := by
  go_enter Try.func60, Try.ntmps60
  go_wp2_with fail
  refine (index_long a n c xs _ h hn).mono ?_
  rintro e w1 ⟨z, rfl, hz, b1⟩
  have HZ := hide hz
  have B1 := hide b1
  clear hz b1 h
  go_wp2_with fail
  go_ret
  refine ⟨congrArg Ending.returned (congrArg Value.bool (Bool.eq_iff_iff.2 ?_)), B1.out⟩
  rw [← HZ.out]
  simp
end Go.Proofs.Ytkeglaplckfllaa
