/-
  The keys of the files that go down from a level; clones.
-/
import Derived.Test.YtkmcdjbadngfgaaPi
import Derived.Test.YtkmcdjbadngfgaaTz
namespace Go.Proofs.Ytkmcdjbadngfgaa
open Go.RowKit
set_option maxRecDepth 100000
set_option maxHeartbeats 4000000
def UpP (l : List Fl) (z : Int) (lo hi : List (BitVec 8)) : Prop := if z = 0 then ∃ f0, l[0]? = some f0 ∧ Gat l f0 lo hi ∧ Closed l lo hi else ∃ f ∈ l, lo = f.least ∧ hi = f.most ∧ ∀ g ∈ l, f.no ≤ g.no
theorem upper_any (a : Option Addr) (n c : Nat) (l : List Tf) (x0 : Tf) (z : Nat) (w : World) (h : Fils w a l) (hn : n = l.length) (hmx : n ≤ 1000000) (h0 : l[0]? = some x0) :
    Calls Try.prog 45 #[.slice a n c, .int .i64 (z : Nat)] w fun e w' => ∃ k : Kk, e = .returned k.agg ∧ Kof l k ∧ UpP (fls l) (z : Nat) k.lo k.hi ∧ Turns (fun _ => False) w w' := by
  have TA := hide ((Turns.refl (fun _ => False) w).alloc (.cells #[.slice none 0 0, .slice none 0 0] 72))
  have R0 := hide (heap_alloc_new w (.cells #[.slice none 0 0, .slice none 0 0] 72))
  have HZ := hide (show w.heap.size = w.heap.size from rfl)
  by_cases z0 : z = 0
  · subst z0
    have GA := hide (gather_any a n c l x0 _ (h.quiet TA.out) hn hmx h0)
    have H0 := hide h0
    clear h h0 hn HZ
    go_enter Try.func45, Try.ntmps45
    go_wp2_with fail
    refine GA.out.mono ?_
    rintro e w1 ⟨k, rfl, hkb, hga, hcl, t1⟩
    have r1 := t1.heap R0.out (fun x => x)
    obtain ⟨ka, kc, ja, jc, lo, hi⟩ := k
    have HKB := hide hkb
    have HGA := hide hga
    have HCL := hide hcl
    have T1 := hide (TA.out.trans t1)
    clear hkb hga hcl t1
    unfold Kk.agg
    simp only at *
    have HL := hide (show lo.length = lo.length ∧ hi.length = hi.length from ⟨rfl, rfl⟩)
    go_wp2_with (refine wpList_store_row rfl 72 _ _ rfl _ _ rfl rfl _ _ r1 ?_ ?_ ?_ ?_; (exact sz72); (simp only [List.size_toArray, List.length_cons, List.length_nil]); (simp [Value.oneCell']))
    refine bodyPost_ret (v := .agg #[.slice ka lo.length kc, .slice ja hi.length jc]) ?_ rfl ?_
    · exact results_cell_row Try.results45 _ _ _ _ _ _ _ rfl (setRow_heap _ _ _ _ _ _ r1) Try.underlying72 rfl sz72
    · have ts := turns_setRow w1 w.heap.size #[.slice ka lo.length kc, .slice ja hi.length jc]
      refine ⟨⟨ka, kc, ja, jc, lo, hi⟩, rfl, HKB.out, ?_, T1.out.andThen ts fun j hj e => by omega⟩
      · unfold UpP; rw [if_pos rfl]; exact ⟨x0.f, fls_at H0.out, HGA.out, HCL.out⟩
  · have GA := hide (min_any a n c l x0 _ (h.quiet TA.out) hn hmx h0)
    have HF := hide h
    have KO := hide (fun (y : Tf) (u : World) => keysOf_any y u)
    clear h h0 hn HZ
    have zi : ¬ (z : Int) = 0 := by omega
    go_enter Try.func45, Try.ntmps45
    go_wp2_with fail
    refine GA.out.mono ?_
    rintro e w1 ⟨j, y, rfl, hj, hmin, t1⟩
    have HJ := hide hj
    have HM := hide hmin
    have T1 := hide (TA.out.trans t1)
    have R1 := hide (t1.heap R0.out (fun x => x))
    have KY := hide (KO.out y)
    clear hj hmin t1 KO
    have HY := hide (show (w.heap.size, y.f.least, y.f.most) = (w.heap.size, y.f.least, y.f.most) from rfl)
    unfold Tf.agg Tf.keys Kk.agg at KY
    obtain ⟨la, lc, ma, mc, ⟨no, sz, ls, ms, en, sq⟩⟩ := y
    unfold Tf.agg
    simp only at *
    clear HY
    go_wp2_with fail
    refine (KY.out _).mono ?_
    rintro e w2 ⟨rfl, t2⟩
    have T2 := hide (T1.out.trans t2)
    have r2 := t2.heap R1.out (fun x => x)
    clear t2
    go_wp2_with (refine wpList_store_row rfl 72 _ _ rfl _ _ rfl rfl _ _ r2 ?_ ?_ ?_ ?_; (exact sz72); (simp only [List.size_toArray, List.length_cons, List.length_nil]); (simp [Value.oneCell']))
    refine bodyPost_ret (v := .agg #[.slice la ls.length lc, .slice ma ms.length mc]) ?_ rfl ?_
    · exact results_cell_row Try.results45 _ _ _ _ _ _ _ rfl (setRow_heap _ _ _ _ _ _ r2) Try.underlying72 rfl sz72
    · have ts := turns_setRow w2 w.heap.size #[.slice la ls.length lc, .slice ma ms.length mc]
      have TZ := T2.out.andThen ts fun j hj e => by omega
      refine ⟨⟨la, lc, ma, mc, ls, ms⟩, rfl, ⟨_, List.mem_of_getElem? HJ.out, _, List.mem_of_getElem? HJ.out, rfl⟩, ?_, TZ⟩
      unfold UpP
      rw [if_neg zi]
      refine ⟨⟨no, sz, ls, ms, en, sq⟩, List.mem_map.2 ⟨_, List.mem_of_getElem? HJ.out, rfl⟩, rfl, rfl, fun g hg => ?_⟩
      obtain ⟨q, hq, rfl⟩ := List.mem_map.1 hg
      exact HM.out q hq
end Go.Proofs.Ytkmcdjbadngfgaa
