/-
  A map from numbers to ints; the lists of a version in memory; how many files; on which level each number stands; whether one stands twice.
-/
import Derived.Test.YtkmcdjbadngfgaaVc
import Derived.Maps.OwnSet
import Derived.Maps.Ext
namespace Go.Proofs.Ytkmcdjbadngfgaa
open Go.RowKit Go.Maps
set_option maxRecDepth 100000
set_option maxHeartbeats 4000000
theorem law23 : Keyed Try.prog 23 := int_keyed Try.underlying23
theorem zero3 (w : World) : (zeroValue 3).run Try.prog w = .ok (.int .i64 0) w := by kernel_rfl
def keyN (k : Nat) : Lit := .int .u64 (k : Nat)
theorem keyN_ne {j k : Nat} (h : j ≠ k) : keyN j ≠ keyN k := fun e => h (by unfold keyN at e; injection e with _ e; omega)
theorem keyN_lit (k : Nat) : WideAt.IsKeyLit (keyN k) := trivial
theorem keyOfN (k : Nat) (h : k < 18446744073709551616) : keyOf Try.prog 23 (.int .u64 (k : Nat)) = some (keyN k) :=
  keyOf_int_mk Try.underlying23 (by simp [Lit.wf, IntKind.min, IntKind.max, IntKind.bits, IntKind.signed]; omega)
def intR : Value → Option (DataW Unit × List MemPlace)
  | .int .i64 z => some (.lit (.int .i64 z), [])
  | _ => none
theorem intR_inv {v : Value} {z : Int} {ps : List MemPlace} (h : intR v = some (.lit (.int .i64 z), ps)) : v = .int .i64 z := by
  unfold intR at h
  split at h
  · cases h; rfl
  · cases h
/-- A map from numbers to ints, of so many keys. -/
def MapN (w : World) (b n : Nat) (m : Nat → Option Int) (s : Nat) : Prop :=
  ∃ D, w.ownsMap Try.prog 23 intR b n D ∧ (∀ k, Maps.has D (keyN k) = (m k).isSome) ∧ (∀ k v, m k = some v → D.atKey (keyN k) (.lit (.int .i64 0)) = .lit (.int .i64 v)) ∧ Maps.size D = s
def upd (m : Nat → Option Int) (k : Nat) (v : Option Int) : Nat → Option Int := fun j => if j = k then v else m j
theorem MapN.keep {S : Nat → Prop} {w w' : World} {b n s : Nat} {m : Nat → Option Int} (h : MapN w b n m s) (t : Turns S w w') (hb : ¬ S b) : MapN w' b n m s := by
  obtain ⟨D, ⟨es, clock, hh, F, hs, hD⟩, r⟩ := h
  exact ⟨D, ⟨es, clock, t.heap hh hb, F, hs, hD⟩, r⟩
theorem MapN.lt {w : World} {b n s : Nat} {m : Nat → Option Int} (h : MapN w b n m s) : b < w.heap.size := by
  obtain ⟨D, ⟨es, clock, hh, F, hs, hD⟩, r⟩ := h
  exact lt_of_heap hh
theorem MapN.notCells {w : World} {b n s : Nat} {m : Nat → Option Int} (h : MapN w b n m s) {cs : Array Value} {t : TypeId} {z : Nat × Nat} : ¬ w.heap[b]? = some (.cells cs t z) := by
  obtain ⟨D, ⟨es, clock, hh, F, hs, hD⟩, r⟩ := h
  intro e; rw [hh] at e; cases e
theorem MapN.size_le {w : World} {b n s : Nat} {m : Nat → Option Int} (h : MapN w b n m s) : s ≤ n := by
  obtain ⟨D, ho, _, _, e⟩ := h
  rw [← e]; exact ho.size_le
theorem MapN.made (w : World) : MapN (w.alloc (.map #[] 0)) w.heap.size 0 (fun _ => none) 0 :=
  ⟨.map [], World.ownsMap_made w Try.prog 23 intR, fun _ => rfl, fun _ _ e => (by cases e), rfl⟩
theorem MapN.store {w : World} {b n s : Nat} {m : Nat → Option Int} (h : MapN w b n m s) (hn : n < maxLen) (k : Nat) (hk : k < 18446744073709551616) (v : Int) :
    ∃ w', (Instr.mapUpdate 96 (.map (some b)) (.int .u64 (k : Nat)) (.int .i64 v)).run Try.prog w = .ok () w' ∧ MapN w' b (n + 1) (upd m k (some v)) (if (m k).isSome then s else s + 1) ∧ Turns (fun j => j = b) w w' := by
  obtain ⟨D, ho, h1, h2, h3⟩ := h
  obtain ⟨w', hr, ho', ht⟩ := ho.store law23 Try.underlying96 hn (keyOfN k hk) (show intR (.int .i64 v) = some (.lit (.int .i64 v), []) from rfl)
  refine ⟨w', hr, ⟨_, ho', fun j => ?_, fun j u hu => ?_, ?_⟩, (Turns.of_grown ht.grown).mono fun j _ e => by cases e; rfl⟩
  · by_cases hj : j = k
    · subst hj; rw [has_put_same ho.isMap (keyN_lit j)]; simp [upd]
    · rw [has_put_other (keyN_ne hj), h1]; simp [upd, hj]
  · by_cases hj : j = k
    · subst hj; rw [atKey_put_same ho.isMap (keyN_lit j)]; simp [upd] at hu; rw [hu]
    · rw [atKey_put_other (keyN_ne hj)]; simp [upd, hj] at hu; exact h2 j u hu
  · rw [size_put (ho.tidy law23), h1, h3]
theorem MapN.drop {w : World} {b n s : Nat} {m : Nat → Option Int} (h : MapN w b n m s) (k : Nat) (hk : k < 18446744073709551616) (ty : TypeId) :
    ∃ w', (Builtin.delete_ #[96, 23] ty #[.map (some b), .int .u64 (k : Nat)]).run Try.prog w = .ok (.tuple #[]) w' ∧ MapN w' b n (upd m k none) (if (m k).isSome then s - 1 else s) ∧ Turns (fun j => j = b) w w' := by
  obtain ⟨D, ho, h1, h2, h3⟩ := h
  obtain ⟨w', hr, ho', ht⟩ := ho.drop law23 Try.underlying96 (keyOfN k hk) ty
  refine ⟨w', hr, ⟨_, ho', fun j => ?_, fun j u hu => ?_, ?_⟩, (Turns.of_grown ht.grown).mono fun j _ e => by cases e; rfl⟩
  · by_cases hj : j = k
    · subst hj; rw [has_del_same]; simp [upd]
    · rw [has_del_other (keyN_ne hj), h1]; simp [upd, hj]
  · by_cases hj : j = k
    · subst hj; simp [upd] at hu
    · rw [atKey_del_other (keyN_ne hj)]; simp [upd, hj] at hu; exact h2 j u hu
  · have := size_del (k := keyN k) (ho.tidy law23)
    rw [h1, h3] at this
    split at this <;> simp_all <;> omega
theorem MapN.look {w : World} {b n s : Nat} {m : Nat → Option Int} (h : MapN w b n m s) (k : Nat) (hk : k < 18446744073709551616) :
    ∃ v : Value, (Instr.lookup 96 (.map (some b)) (.int .u64 (k : Nat)) true).run Try.prog w = .ok (.tuple #[v, .bool (m k).isSome]) w ∧ (∃ z, v = .int .i64 z) ∧ ∀ z, m k = some z → v = .int .i64 z := by
  obtain ⟨D, ho, h1, h2, h3⟩ := h
  obtain ⟨v, ps, hr, hv⟩ := ho.look_ok law23 Try.underlying96 (zero3 w) (zd := .lit (.int .i64 0)) (zp := []) rfl (keyOfN k hk)
  rw [h1] at hr
  refine ⟨v, hr, ?_, fun z hz => by rw [h2 k z hz] at hv; exact intR_inv hv⟩
  cases hm : m k with
  | none => rw [atKey_of_not_has (by rw [h1, hm]; rfl)] at hv; exact ⟨0, intR_inv hv⟩
  | some z => rw [h2 k z hm] at hv; exact ⟨z, intR_inv hv⟩
theorem MapN.len {w : World} {b n s : Nat} {m : Nat → Option Int} (h : MapN w b n m s) (ty : TypeId) : (Builtin.len_ #[96] ty #[.map (some b)]).run Try.prog w = .ok (.int .i64 (s : Nat)) w := by
  obtain ⟨D, ho, h1, h2, h3⟩ := h
  rw [ho.len Try.underlying96 ty, h3]
theorem run_makeMap23 (n : Nat) (w : World) : (Instr.makeMap 96 (some (.int .i64 (n : Nat)))).run Try.prog w = .ok (.map (some w.heap.size)) (w.alloc (.map #[] 0)) := by
  simp [Instr.makeMap, asInt]
  rfl
end Go.Proofs.Ytkmcdjbadngfgaa
