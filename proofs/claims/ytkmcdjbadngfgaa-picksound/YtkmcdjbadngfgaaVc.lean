/-
  Whether the files of a level are in order.
-/
import Derived.Test.YtkmcdjbadngfgaaVb
namespace Go.Proofs.Ytkmcdjbadngfgaa
open Go.RowKit
set_option maxRecDepth 100000
set_option maxHeartbeats 4000000
theorem wrapI (z : Int) (h0 : -9223372036854775808 ≤ z) (h1 : z < 9223372036854775808) : IntKind.i64.wrap z = z := by rw [IntKind.wrap_i64]; omega
def ordF (lev : Nat) : List Fl → Bool
  | [] => true
  | [_] => true
  | x :: y :: r => aheadF lev x y && ordF lev (y :: r)
theorem ordF_iff (lev : Nat) : ∀ l : List Fl, ordF lev l = true ↔ ∀ j x y, l[j]? = some x → l[j + 1]? = some y → aheadF lev x y = true
  | [] => by simp [ordF]
  | [_] => by simp [ordF]
  | a :: b :: r => by
    unfold ordF
    rw [Bool.and_eq_true, ordF_iff lev (b :: r)]
    constructor
    · rintro ⟨h1, h2⟩ j x y hx hy
      cases j with
      | zero => simp at hx hy; subst hx hy; exact h1
      | succ j => exact h2 j x y (by simpa using hx) (by simpa using hy)
    · intro h
      exact ⟨h 0 a b rfl rfl, fun j x y hx hy => h (j + 1) x y (by simpa using hx) (by simpa using hy)⟩
def fls (l : List Tf) : List Fl := l.map Tf.f
theorem fls_at {l : List Tf} {k : Nat} {x : Tf} (h : l[k]? = some x) : (fls l)[k]? = some x.f := by simp [fls, h]
theorem inOrder_any (lev : Nat) (a : Option Addr) (n c : Nat) (l : List Tf) (w : World) (h : Fils w a l) (hn : n = l.length) (hmx : n ≤ 1000000) :
    Calls Try.prog 71 #[.int .i64 (lev : Nat), .slice a n c] w fun e w' => e = .returned (.bool (ordF lev (fls l))) ∧ Turns (fun _ => False) w w' := by
  have H := hide h
  have HL := hide hn
  have hni : (n : Int) ≤ 1000000 := by omega
  clear h hn
  go_enter Try.func71, Try.ntmps71
  go_wp2_with fail
  go_loopw [5] (fun i wr => ∃ k : Nat, i = .int .i64 (k : Nat) ∧ 1 ≤ k ∧ k ≤ n + 1 ∧ (∀ j x y, j + 1 < k → (fls l)[j]? = some x → (fls l)[j + 1]? = some y → aheadF lev x y = true) ∧ Turns (fun _ => False) w wr) (fun i _ => n + 1 - (intOf i).toNat)
  case atStart => exact ⟨1, rfl, Nat.le_refl _, by omega, fun j x y hj => by omega, Turns.refl _ _⟩
  case round =>
    obtain ⟨k, rfl, hk1, hk, hno, hb⟩ := hrel
    have HO := hide hno
    have HB := hide hb
    clear hno hb
    by_cases hkn : k < n
    · obtain ⟨p, rfl⟩ : ∃ p, k = p + 1 := ⟨k - 1, by omega⟩
      obtain ⟨x, hx⟩ : ∃ x, l[p]? = some x := ⟨_, List.getElem?_eq_getElem (by have := HL.out; omega)⟩
      obtain ⟨y, hy⟩ : ∃ x, l[p + 1]? = some x := ⟨_, List.getElem?_eq_getElem (by have := HL.out; omega)⟩
      obtain ⟨b, off, rfl, h6, hfb⟩ := fc_of (H.out.quiet HB.out) hx
      obtain ⟨b', off', e', h6', hfb'⟩ := fc_of (H.out.quiet HB.out) hy
      cases e'
      have i1 : ((p + 1 : Nat) : Int) < n := by omega
      have i2 : (0 : Int) ≤ (p : Int) := by omega
      have i3 : (p : Int) < n := by omega
      have i4 : IntKind.i64.wrap (p : Int) = (p : Int) := wrapI _ (by omega) (by omega)
      have i5 : (0 : Int) ≤ ((p + 1 : Nat) : Int) := by omega
      have ep : ((p + 1 : Nat) : Int) - 1 = (p : Int) := by omega
      have t0 : Turns (fun _ => False) wr wr.drew := (Turns.refl _ _).drew
      have HQ := hide (isAhead_any lev x y wr.drew (hfb.quiet t0) (hfb'.quiet t0))
      have HX := hide (fls_at hx)
      have HY := hide (fls_at hy)
      clear hfb hfb' hx hy t0
      obtain ⟨la, lc, ma, mc, ⟨no, sz, ls, ms, en, sq⟩⟩ := x
      obtain ⟨la', lc', ma', mc', ⟨no', sz', ls', ms', en', sq'⟩⟩ := y
      obtain ⟨c0, c1, c2, c3, c4, c5⟩ := h6
      obtain ⟨d0, d1, d2, d3, d4, d5⟩ := h6'
      unfold Tf.agg at HQ
      simp only at *
      generalize hcv : aheadF lev ⟨no, sz, ls, ms, en, sq⟩ ⟨no', sz', ls', ms', en', sq'⟩ = cv at *
      have HCV := hide hcv
      clear hcv
      generalize ls.length = L1 at *
      generalize ms.length = L2 at *
      generalize ls'.length = L3 at *
      generalize ms'.length = L4 at *
      go_wp2_with fail
      go_region_held (fun w' => (w'.cell? ⟨b, off + p * 6, none⟩ = some (.int .u64 (no : Nat)) ∧ w'.cell? ⟨b, off + p * 6 + 1, none⟩ = some (.int .i64 sz) ∧ w'.cell? ⟨b, off + p * 6 + 2, none⟩ = some (.slice la L1 lc) ∧ w'.cell? ⟨b, off + p * 6 + 3, none⟩ = some (.slice ma L2 mc) ∧ w'.cell? ⟨b, off + p * 6 + 4, none⟩ = some (.int .i64 en) ∧ w'.cell? ⟨b, off + p * 6 + 5, none⟩ = some (.int .u64 (sq : Nat))) ∧ w'.cell? ⟨b, off + (p + 1) * 6, none⟩ = some (.int .u64 (no' : Nat)) ∧ w'.cell? ⟨b, off + (p + 1) * 6 + 1, none⟩ = some (.int .i64 sz') ∧ w'.cell? ⟨b, off + (p + 1) * 6 + 2, none⟩ = some (.slice la' L3 lc') ∧ w'.cell? ⟨b, off + (p + 1) * 6 + 3, none⟩ = some (.slice ma' L4 mc') ∧ w'.cell? ⟨b, off + (p + 1) * 6 + 4, none⟩ = some (.int .i64 en') ∧ w'.cell? ⟨b, off + (p + 1) * 6 + 5, none⟩ = some (.int .u64 (sq' : Nat))) (first | (with_reducible exact ⟨⟨f0, f1, f2, f3, f4, f5⟩, g0, g1, g2, g3, g4, g5⟩) | (simp only [World.cell?_drew]; with_reducible exact ⟨⟨c0, c1, c2, c3, c4, c5⟩, d0, d1, d2, d3, d4, d5⟩)) (first
        | (go_at_call 83; refine HQ.out.mono ?_; rintro x w2 ⟨rfl, b2⟩; have t2 := (Turns.refl (fun _ => False) wr).drew.trans b2; have f0 := t2.cell c0 (fun x => x); have f1 := t2.cell c1 (fun x => x); have f2 := t2.cell c2 (fun x => x); have f3 := t2.cell c3 (fun x => x); have f4 := t2.cell c4 (fun x => x); have f5 := t2.cell c5 (fun x => x); have g0 := t2.cell d0 (fun x => x); have g1 := t2.cell d1 (fun x => x); have g2 := t2.cell d2 (fun x => x); have g3 := t2.cell d3 (fun x => x); have g4 := t2.cell d4 (fun x => x); have g5 := t2.cell d5 (fun x => x); have T2 := hide t2; clear t2 b2))
      clear f0 f1 f2 f3 f4 f5 g0 g1 g2 g3 g4 g5
      cases cv
      · go_wp2_with fail
        go_ret
        refine ⟨congrArg Ending.returned (congrArg Value.bool (Eq.symm ?_)), HB.out.trans T2.out⟩
        refine Bool.eq_false_iff.2 fun q => ?_
        have := (ordF_iff _ _).1 q p _ _ HX.out HY.out
        rw [HCV.out] at this
        cases this
      · go_wp2_with fail
        go_roundw
        case rel =>
          refine ⟨p + 2, by go_num, by omega, by omega, fun j x y hj hx hy => ?_, HB.out.trans T2.out⟩
          by_cases hjp : j = p
          · subst hjp
            rw [HX.out] at hx
            rw [HY.out] at hy
            cases hx; cases hy
            exact HCV.out
          · exact HO.out j x y (by omega) hx hy
        case measure => simp [intOf]; omega
    · have i1 : ¬ (k : Int) < n := by omega
      go_wp2_with fail
      go_ret
      refine ⟨congrArg Ending.returned (congrArg Value.bool (Eq.symm ?_)), HB.out⟩
      refine (ordF_iff _ _).2 fun j x y hx hy => HO.out j x y ?_ hx hy
      have := (List.getElem?_eq_some_iff.1 hy).1
      have h9 := HL.out
      simp only [fls, List.length_map] at this
      omega
end Go.Proofs.Ytkmcdjbadngfgaa
