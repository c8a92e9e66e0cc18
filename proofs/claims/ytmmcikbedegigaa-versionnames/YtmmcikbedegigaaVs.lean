/-
  The files of a list are sorted.
-/
import Derived.Test.YtmmcikbedegigaaVr
import Derived.Test.YtmmcikbedegigaaLy
namespace Go.Proofs.Ytmmcikbedegigaa
open Go.RowKit Go.Shelf Go.Lib
open Go.Sort (grow SWO PermIn SortedIn)
set_option maxRecDepth 100000
set_option maxHeartbeats 4000000
/-- The order of a level. -/
def cmpF (lev : Nat) (a b : Fl) : Int := if lev = 0 then cmpN a.no b.no else cmpB a.least b.least
theorem sort1_any (lev V : Nat) (x y : Tf) (w : World) (hv : w.cell? ⟨V, 0, none⟩ = some (.int .i64 (lev : Nat))) (h : FB w x) (h' : FB w y) :
    Calls Try.prog 73 #[x.agg, y.agg, .pointer (some ⟨V, 0, none⟩)] w fun e w' => e = .returned (.int .i64 (cmpF lev x.f y.f)) ∧ ∃ q os', w' = grow (w.drewN q) os' := by
  obtain ⟨la, lc, ma, mc, ⟨no, sz, ls, ms, en, sq⟩⟩ := x
  obtain ⟨la', lc', ma', mc', ⟨no', sz', ls', ms', en', sq'⟩⟩ := y
  have TA := hide (((Turns.refl (fun _ => False) w).alloc (.cells #[.int .u64 (no : Nat), .int .i64 sz, .slice la ls.length lc, .slice ma ms.length mc, .int .i64 en, .int .u64 (sq : Nat)] 37)).alloc (.cells #[.int .u64 (no' : Nat), .int .i64 sz', .slice la' ls'.length lc', .slice ma' ms'.length mc', .int .i64 en', .int .u64 (sq' : Nat)] 37))
  have CB := hide (compareB_any la la' ls.length ls'.length lc lc' ls ls' _ (h.quiet TA.out).1 (h'.quiet TA.out).1)
  have hv2 := TA.out.cell hv (fun x => x)
  unfold Tf.agg
  simp only
  clear h h' hv
  by_cases hl : lev = 0
  · subst hl
    have C64 := hide (cmp64_any no no')
    go_enter Try.func73, Try.ntmps73
    go_wp2_with fail
    refine (C64.out _).mono ?_
    rintro e w1 ⟨rfl, rfl⟩
    go_wp2_with fail
    go_ret
    exact ⟨rfl, 0, _, by rw [Go.Sort.alloc_eq_grow, Go.Sort.alloc_eq_grow, Go.Sort.grow_grow]; rfl⟩
  · have hli : ¬ (lev : Int) = 0 := by omega
    go_enter Try.func73, Try.ntmps73
    go_wp2_with fail
    refine CB.out.mono ?_
    rintro e w1 ⟨rfl, rfl⟩
    go_wp2_with fail
    go_ret
    exact ⟨by simp [cmpF, hl], 0, _, by rw [Go.Sort.alloc_eq_grow, Go.Sort.alloc_eq_grow, Go.Sort.grow_grow]; rfl⟩
theorem cmpF_swo (lev : Nat) (p : Tf → Prop) : SWO (ltOf fun (x y : {x : Tf // p x}) => cmpF lev x.1.f y.1.f) := by
  have hB : ∀ a b c : List (BitVec 8), ¬ cmpB a b < 0 → ¬ cmpB b c < 0 → ¬ cmpB a c < 0 := fun a b c h1 h2 h3 => by
    have h4 : cmpB a c = -1 := by rcases cmpB_vals a c with h | h | h <;> omega
    have e1 := cmpB_swap a b
    have e2 := cmpB_swap b c
    rcases cmpB_vals a b with h | h | h
    · omega
    · rw [(cmpB_zero a b).1 h] at h4; omega
    · have h5 : cmpB b a = -1 := by omega
      have := cmpB_lt h5 h4
      omega
  refine ⟨fun x => ?_, fun x y z h1 h2 => ?_, fun x y z h1 h2 => ?_⟩
  · have := (cmpB_zero x.1.f.least x.1.f.least).2 rfl
    unfold ltOf cmpF cmpN
    split <;> simp [this]
  · unfold ltOf cmpF cmpN at *
    by_cases hl : lev = 0
    · simp only [hl, if_true, decide_eq_true_eq] at *; split at h1 <;> split at h2 <;> (try split at h1) <;> (try split at h2) <;> split <;> (try split) <;> omega
    · simp only [hl, if_false, decide_eq_true_eq] at *
      have e1 : cmpB x.1.f.least y.1.f.least = -1 := by rcases cmpB_vals x.1.f.least y.1.f.least with h | h | h <;> omega
      have e2 : cmpB y.1.f.least z.1.f.least = -1 := by rcases cmpB_vals y.1.f.least z.1.f.least with h | h | h <;> omega
      have := cmpB_lt e1 e2
      omega
  · unfold ltOf cmpF cmpN at *
    by_cases hl : lev = 0
    · simp only [hl, if_true, decide_eq_false_iff_not] at *; split at h1 <;> split at h2 <;> (try split at h1) <;> (try split at h2) <;> split <;> (try split) <;> omega
    · simp only [hl, if_false, decide_eq_false_iff_not] at *
      exact hB _ _ _ h1 h2
end Go.Proofs.Ytmmcikbedegigaa
