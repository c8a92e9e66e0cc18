/-
  The document's Append: the frame's bytes behind bytes of one's own.
-/
import Derived.Test.YtpighnknldhigaaRMid
import Derived.Deep.RegionHeldLaw
import Derived.Deep.CutRange
namespace Go.Proofs.Ytpighnknldhigaa
open Go.RowKit

/-- An append whose outcome is known, as one step of a region that draws its order. -/
theorem step_append_run {P : Program} {ops : Array Oper} {o : Oper} {a : Act} {w : World} {K : Act → World → Prop} {Q : Exit → Act → World → Prop} {E : Prop} (hgd : o.guard = none) (s x : Operand) (t : TypeId)
    (ho : o.op = .call { callee := .builtin .append, args := #[s, x], argTypes := #[t, t] }) (vs vx : Value) (hs : a.eval s = vs) (hx : a.eval x = vx) (v : Value) (w' : World)
    (hr : (Builtin.append_ #[t, t] o.type #[vs, vx]).run P w = .ok v w') (d : Nat) (hd : o.dst = some d) (h : K (a.put (some d) v) w') :
    if Region.wanted o (yielded ops a.tmps) = true then Oper.wp P o a w K Q else E := by
  have hw : Region.wanted o (yielded ops a.tmps) = true := by simp [Region.wanted, hgd]
  rw [if_pos hw]
  unfold Oper.wp execOp
  simp only [ho, resolve, invoke, builtin, Sem.run_bind, Sem.run_pure, Result.andThen_ok, List.map_toArray, List.map_cons, List.map_nil, hs, hx, hr]
  show K (a.put o.dst v) w'
  rw [hd]
  exact h

set_option maxRecDepth 100000 in
set_option maxHeartbeats 4000000 in
theorem rappend_any (B g c0 : Nat) (bs : List (BitVec 8)) (m : Nat) (hm : m = bs.length) (k : BitVec 8) (a : Option Addr) (n c : Nat) (body : List (BitVec 8)) (w : World) (hB : B ≤ w.heap.size) (hg : B ≤ g) (hmc : m ≤ c0) (hrow : RowB w g c0 bs)
    (hf : ∀ w', Below B w w' → Bytes w' (.slice a n c) body) (hn : n ≤ 1048576) (hb : m ≤ 900000000) :
    Calls Try.prog 12 #[.slice (some ⟨g, 0, none⟩) m c0, .agg #[.int .u8 k.toNat, .slice a n c]] w fun e w' => ∃ g' cp, e = .returned (.tuple #[.slice (some ⟨g', 0, none⟩) (m + 8 + n + 4) cp, .int .i64 0]) ∧ B ≤ g' ∧ m + 8 + n + 4 ≤ cp ∧ RowB w' g' cp (bs ++ Fr.frameB k body) ∧ Below B w w' := by
  have hle : ¬ (1048576 : Int) < (n : Int) := by omega
  have HF := hide hf
  have HM := hide hm
  have HR := hide hrow
  clear hf hm hrow
  go_enter Try.func12, Try.ntmps12
  go_wp2_with fail
  have hb0 : Below w.heap.size w (w.alloc (.cells #[.int .u8 k.toNat, .slice a n c] 27)) := (Below.refl _ _).alloc (Nat.le_refl _) _
  have hnew := heap_alloc_new w (.cells #[.int .u8 k.toNat, .slice a n c] 27)
  have B0 := hide (hb0.mono hB)
  have R0 := hide (RowC.below HR.out hb0)
  have hsz : B ≤ (w.alloc (.cells #[.int .u8 k.toNat, .slice a n c] 27)).heap.size := Nat.le_trans hB hb0.size
  generalize w.alloc (.cells #[.int .u8 k.toNat, .slice a n c] 27) = w0 at *
  have c0' : w0.cell? ⟨w.heap.size, 0, none⟩ = some (.int .u8 k.toNat) := cell_of_row w0 _ 0 _ 27 (0, 0) hnew
  have c1' : w0.cell? ⟨w.heap.size, 1, none⟩ = some (.slice a n c) := cell_of_row w0 _ 1 _ 27 (0, 0) hnew
  have HN := hide hnew
  clear hnew hb0
  go_cut [0] from 10 to 20 (fun v wx => ∃ g2 c2 : Nat, v = .slice (some ⟨g2, 0, none⟩) (m + 8 + n) c2 ∧ B ≤ g2 ∧ m + 8 + n ≤ c2 ∧ RowB wx g2 c2 (bs ++ Fr.headB k n ++ body) ∧ Below B w wx ∧ wx.cell? ⟨w.heap.size, 1, none⟩ = some (.slice a n c))
  case first =>
    rename_i qq kk rest jj kk' m1 m2
    clear rest
    go_region_held_law (fun w' => w'.cell? ⟨w.heap.size, 0, none⟩ = some (.int .u8 k.toNat) ∧ w'.cell? ⟨w.heap.size, 1, none⟩ = some (.slice a n c)) (first | (with_reducible exact ⟨f3, f3'⟩) | (with_reducible exact ⟨f2, f2'⟩) | (with_reducible exact ⟨f1, f1'⟩) | (simp only [World.cell?_drew]; with_reducible exact ⟨c0', c1'⟩)) (first
      | (refine step_append_run rfl (.tmp 10) (.tmp 16) 22 rfl _ _ rfl rfl _ _ q1 17 rfl ?_; simp only [Act.put, List.setIfInBounds_toArray, List.set_cons_zero, List.set_cons_succ])
      | (refine step_append_run rfl (.tmp 17) (.tmp 19) 22 rfl _ _ rfl rfl _ _ q2 20 rfl ?_; simp only [Act.put, List.setIfInBounds_toArray, List.set_cons_zero, List.set_cons_succ])
      | (go_at_call 28; refine (rhead_any k n (by omega) _).mono ?_; rintro e w1 ⟨gh, ch, rfl, hgh, hch, hrh, bh⟩; obtain ⟨g1, cc1, w2, g2, cc2, w3, q1, q2, hg2, hl2, row3, b13, x2, x3⟩ := rappend_mid B g c0 m n c ch gh w.heap.size bs (Fr.headB k n) body a _ _ w1 HM.out (Nat.le_trans hsz bh.size) hg hmc (RowC.below (w := w0.drew) R0.out bh) (RowB.bytes hrh rfl) rfl (heap_keep (w := w0.drew) bh HN.out) (fun w' hw' => HF.out w' ((B0.out.drew.trans (bh.mono hsz)).trans hw')) hn (by omega); have f1 := cell_of_row w1 w.heap.size 0 _ 27 (0, 0) (heap_keep (w := w0.drew) bh HN.out); have f1' := cell_of_row w1 w.heap.size 1 _ 27 (0, 0) (heap_keep (w := w0.drew) bh HN.out); have f2 := cell_of_row w2 w.heap.size 0 _ 27 (0, 0) x2; have f2' := cell_of_row w2 w.heap.size 1 _ 27 (0, 0) x2; have f3 := cell_of_row w3 w.heap.size 0 _ 27 (0, 0) x3; have f3' := cell_of_row w3 w.heap.size 1 _ 27 (0, 0) x3; simp at f1 f1' f2 f2' f3 f3'; have ROW3 := hide row3; have B3 := hide ((B0.out.drew.trans (bh.mono hsz)).trans b13); clear bh hrh row3 b13 x2 x3))
    all_goals go_wp2_with fail
    all_goals go_meet
    all_goals exact ⟨g2, cc2, rfl, hg2, hl2, ROW3.out, B3.out, f3'⟩
  case rest =>
    obtain ⟨g2, c2, rfl, hg2, hc2, row, bx, cx⟩ := hcut
    clear c0' c1'
    have hbody := HF.out wc bx
    have HBODY := hide hbody
    have hbl := hbody.len
    clear hbody
    have hfr : Fr.frameB k body = Fr.headB k n ++ (body ++ Fr.msum body) := by rw [hbl]; rfl
    have HFR := hide hfr
    have HBL := hide hbl
    clear hbl hfr
    have ROW := hide row
    have BX := hide bx
    clear row bx
    go_wp2_with fail
    refine (rsum_any _ body _ HBODY.out (by rw [← HBL.out]; unfold maxLen; omega)).mono ?_
    rintro e w5 ⟨rfl, rfl⟩
    go_wp2_with fail
    refine (rmask_any _ _).mono ?_
    rintro e w6 ⟨rfl, rfl⟩
    go_wp2_with fail
    refine (four_any B _ _ _ _ (by rw [List.length_append, List.length_append, ← HM.out, ← HBL.out, Fr.headB_length]) _ _ (Nat.le_trans hB BX.out.size) (.inr ⟨_, rfl, hg2, hc2, ROW.out⟩) (by omega)).mono ?_
    rintro e w7 ⟨g7, c7, rfl, hg7, hc7, row7, b7⟩
    have R7 := hide row7
    have B7 := hide (BX.out.trans b7)
    clear row7 b7
    go_wp2_with fail
    go_ret2
    refine ⟨g7, c7, rfl, hg7, hc7, ?_, B7.out⟩
    have := R7.out
    rw [HFR.out]
    simpa only [Fr.msum, List.append_assoc] using this
end Go.Proofs.Ytpighnknldhigaa
