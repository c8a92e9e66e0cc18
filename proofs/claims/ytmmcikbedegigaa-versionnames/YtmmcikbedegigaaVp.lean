/-
  DeleteFunc of files whose numbers are in no map.
-/
import Derived.Test.YtmmcikbedegigaaVo
namespace Go.Proofs.Ytmmcikbedegigaa
open Go.RowKit
set_option maxRecDepth 100000
set_option maxHeartbeats 4000000
theorem row_f6 {w : World} {g c : Nat} {R : List Tf} (h : RowC w g 37 (c * 6) (flCells R)) {k : Nat} {x : Tf} (hx : R[k]? = some x) : F6 w g (0 + k * 6) x := by
  obtain ⟨cs, h1, h2, h3⟩ := h
  have hk := (List.getElem?_eq_some_iff.1 hx).1
  have hl := flCells_length R
  have : ∀ j, j < 6 → w.cell? ⟨g, 0 + k * 6 + j, none⟩ = x.cells[j]? := fun j hj => by
    rw [Nat.zero_add, cell_of_row w g _ cs 37 (0, 0) h1, h3 _ (by omega), flCells_at R k x hx j hj]
  exact ⟨this 0 (by omega), this 1 (by omega), this 2 (by omega), this 3 (by omega), this 4 (by omega), this 5 (by omega)⟩
theorem set_split {Q : List Tf} {i : Nat} {x : Tf} (h : Q[i]? = some x) : Q = Q.take i ++ x :: Q.drop (i + 1) := by
  have hi := (List.getElem?_eq_some_iff.1 h).1
  have e : Q[i] = x := by rw [List.getElem?_eq_getElem hi] at h; exact Option.some.inj h
  conv => lhs; rw [← List.take_append_drop i Q]
  rw [List.drop_eq_getElem_cons hi, e]
theorem row_cut {w : World} {g c i : Nat} {Q : List Tf} (h : RowC w g 37 (c * 6) (flCells Q)) (hi : i ≤ Q.length) (vs : List Value) : RowC (w.setCells g (i * 6) vs) g 37 (c * 6) (flCells (Q.take i)) := by
  obtain ⟨cs, h1, h2, h3⟩ := h
  obtain ⟨cs', k1, k2, k3⟩ := heap_setCells g 37 vs (i * 6) w cs h1
  have hl := flCells_length Q
  have hsplit : flCells Q = flCells (Q.take i) ++ flCells (Q.drop i) := by rw [← flCells_append, List.take_append_drop]
  refine ⟨cs', k1, by omega, fun k hk => ?_⟩
  have hk' := hk
  rw [flCells_length, List.length_take] at hk'
  have h4 := h3 k (by omega)
  have hks : k < cs.size := by
    rcases Nat.lt_or_ge k cs.size with h | h
    · exact h
    · rw [Array.getElem?_eq_none h] at h4
      have := List.getElem?_eq_none_iff.1 h4.symm
      omega
  rw [k3 k hks, if_neg (by omega), h4, hsplit, List.getElem?_append_left hk]
/-- How far the filtering has come. -/
structure Del (w ws : World) (g c n : Nat) (R : List Tf) (m : Nat → Option Int) (i j : Nat) (Q : List Tf) : Prop where
  lt : i < j
  le : j ≤ n
  len : Q.length = n
  pre : Q.take i = (R.take j).filter (keepT m)
  post : Q.drop j = R.drop j
  row : RowC ws g 37 (c * 6) (flCells Q)
  turn : Turns (fun k => k = g) w ws
theorem delFunc_any (a : Option Addr) (n c : Nat) (R : List Tf) (B V M nn s : Nat) (m : Nat → Option Int) (w : World) (h : RowOk w B a c R) (hn : n = R.length) (hmx : n ≤ 1000000) (hv : w.heap[V]? = some (.cells #[.map (some M)] 87 (0, 0))) (hm : MapN w M nn m s) (hno : ∀ x ∈ R, x.f.no < 18446744073709551616) :
    Calls Try.prog 52 #[.slice a n c, .func (.func 53) #[] #[.pointer (some ⟨V, 0, none⟩)]] w fun e w' => ∃ n', e = .returned (.slice a n' c) ∧ n' = (R.filter (keepT m)).length ∧ RowOk w' B a c (R.filter (keepT m)) ∧ Turns (fun j => a = some ⟨j, 0, none⟩) w w' := by
  have hcv : w.cell? ⟨V, 0, none⟩ = some (.map (some M)) := cell_of_row w V 0 _ 87 (0, 0) hv
  have IX := hide (index_del a n c R V M nn s m w (fun k x hx => by
    rcases h with ⟨_, e, _⟩ | ⟨g, e, _, _, hr⟩
    · rw [e] at hx; simp at hx
    · exact ⟨g, 0, e, row_f6 hr hx⟩) hn hmx hcv hm hno)
  have H := hide h
  have HL := hide hn
  have hni : (n : Int) ≤ 1000000 := by omega
  have HM := hide hm
  have HNO := hide hno
  have HV := hide hv
  clear h hn hm hno hv hcv
  go_enter Try.func52, Try.ntmps52
  go_wp2_with fail
  refine IX.out.mono ?_
  rintro e w1 ⟨z, rfl, hz, t1⟩
  have T1 := hide t1
  clear t1 IX
  rcases hz with ⟨rfl, hall⟩ | ⟨i0, rfl, hi0, hal, hfi⟩
  · have hf : R.filter (keepT m) = R := List.filter_eq_self.2 fun y hy => List.all_eq_true.1 hall y hy
    have HF := hide hf
    clear hf hall
    go_wp2_with fail
    go_ret
    exact ⟨n, rfl, by rw [HF.out]; exact HL.out, by rw [HF.out]; exact H.out.keep T1.out fun _ _ x => x, T1.out.mono fun _ _ x => x.elim⟩
  · obtain ⟨g, rfl, hB, hlc, hrow⟩ : ∃ g, a = some ⟨g, 0, none⟩ ∧ B ≤ g ∧ R.length ≤ c ∧ RowC w g 37 (c * 6) (flCells R) := by
      rcases H.out with ⟨_, e, _⟩ | h
      · have := HL.out; rw [e] at this; simp at this; omega
      · exact h
    have HB := hide hB
    have HLC := hide hlc
    have hcn : (n : Int) ≤ c := by have := HL.out; omega
    have HFI := hide hfi
    have D0 := hide (show Del w w1 g c n R m i0 (i0 + 1) R from ⟨by omega, by omega, HL.out.symm, HFI.out.symm, rfl, hrow.turns T1.out (fun x => x), T1.out.mono fun _ _ x => x.elim⟩)
    have ii : ¬ (i0 : Int) = -1 := by omega
    have VG := hide (show ¬ V = g from fun e => by obtain ⟨cs, h1, _⟩ := hrow; have h2 := HV.out; rw [e, h1] at h2; cases h2)
    have MG := hide (show ¬ M = g from fun e => by obtain ⟨cs, h1, _⟩ := hrow; rw [← e] at h1; exact HM.out.notCells h1)
    clear hfi hal hrow hB hlc
    go_wp2_with fail
    rw [show ((i0 : Int) == -1) = false by simp]
    go_loopw [5, 6] (fun vi vj ws => ∃ (i j : Nat) (Q : List Tf), vi = .int .i64 (i : Nat) ∧ vj = .int .i64 (j : Nat) ∧ Del w ws g c n R m i j Q) (fun _ vj _ => n - (intOf vj).toNat)
    case atStart => exact ⟨i0, i0 + 1, R, rfl, by go_num, D0.out⟩
    case round =>
      obtain ⟨i, j, Q, rfl, rfl, hd⟩ := hrel
      have HD := hide hd
      have hij := hd.lt
      have hjn := hd.le
      clear hd
      by_cases hj : j < n
      · obtain ⟨y, hy⟩ : ∃ y, Q[j]? = some y := ⟨_, List.getElem?_eq_getElem (by have := HD.out.len; omega)⟩
        have hyR : R[j]? = some y := by
          have e := HD.out.post
          have h1 : (Q.drop j)[0]? = some y := by rw [List.getElem?_drop]; exact hy
          rw [e, List.getElem?_drop] at h1
          exact h1
        have h6 := row_f6 HD.out.row hy
        have j1 : (j : Int) < n := by omega
        have j0 : (0 : Int) ≤ j := by omega
        have i0' : (0 : Int) ≤ i := by omega
        have i1' : (i : Int) < n := by omega
        have hvw := HD.out.turn.heap HV.out VG.out
        have CC := hide (fun (u : World) (t : Turns (fun _ => False) wr u) => drop1_any y V M nn s m u (t.cell (cell_of_row wr V 0 _ 87 (0, 0) hvw) (fun x => x)) ((HM.out.keep HD.out.turn MG.out).keep t (fun x => x)) (HNO.out y (List.mem_of_getElem? hyR)))
        have DN := hide (show keepT m y = false → Del w wr g c n R m i (j + 1) Q from fun e => ⟨by omega, by omega, HD.out.len, by rw [HD.out.pre, List.take_add_one, hyR, List.filter_append]; simp [e], by rw [← List.drop_drop, HD.out.post, List.drop_drop], HD.out.row, HD.out.turn⟩)
        obtain ⟨x, hx⟩ : ∃ x, Q[i]? = some x := ⟨_, List.getElem?_eq_getElem (by have := HD.out.len; omega)⟩
        have DK := hide (show ∀ u, Turns (fun _ => False) wr u → keepT m y = true → Del w (u.setCells g (i * 6) y.cells) g c n R m (i + 1) (j + 1) (Q.take i ++ y :: Q.drop (i + 1)) from fun u t e => by
          have hlq := HD.out.len
          have htl : (Q.take i).length = i := by rw [List.length_take]; omega
          refine ⟨by omega, by omega, by simp; omega, ?_, ?_, ?_, (HD.out.turn.trans (t.mono fun _ _ x => x.elim)).trans (turns_setCells _ _ _ _)⟩
          · rw [List.take_append, htl, List.take_of_length_le (by omega), HD.out.pre, List.take_add_one, hyR, List.filter_append]
            simp [e]
          · have : (Q.take i ++ y :: Q.drop (i + 1)).drop (j + 1) = Q.drop (j + 1) := by
              rw [List.drop_append, htl, List.drop_eq_nil_of_le (by omega), List.nil_append, show j + 1 - i = (j - i) + 1 by omega, List.drop_succ_cons, List.drop_drop]
              congr 1; omega
            rw [this, ← List.drop_drop, HD.out.post, List.drop_drop]
          · have h1 := HD.out.row.turns t (fun x => x)
            rw [set_split hx] at h1
            exact row_put h1 htl)
        have HCELL := hide (show ∀ u, Turns (fun _ => False) wr u → ∃ cs, u.heap[g]? = some (.cells cs 37 (0, 0)) ∧ i * 6 + 6 ≤ cs.size from fun u t => by
          obtain ⟨cs, h1, h2, h3⟩ := HD.out.row
          have := HLC.out; have := HL.out
          exact ⟨cs, t.heap h1 (fun x => x), by omega⟩)
        obtain ⟨la, lc, ma, mc, ⟨no, sz, ls, ms, en, sq⟩⟩ := y
        simp only [cells6] at DK
        obtain ⟨y0, y1, y2, y3, y4, y5⟩ := h6
        unfold Tf.agg at CC
        simp only at *
        generalize ls.length = L1 at *
        generalize ms.length = L2 at *
        clear hy hyR hvw hx
        have TF := hide ((Turns.refl (fun _ => False) wr).alloc (.cells #[.int .u64 (no : Nat), .int .i64 sz, .slice la L1 lc, .slice ma L2 mc, .int .i64 en, .int .u64 (sq : Nat)] 37))
        have RF := hide (heap_alloc_new wr (.cells #[.int .u64 (no : Nat), .int .i64 sz, .slice la L1 lc, .slice ma L2 mc, .int .i64 en, .int .u64 (sq : Nat)] 37))
        rw [Nat.zero_add] at y0 y1 y2 y3 y4 y5
        go_wp2_with fail
        refine (CC.out _ TF.out).mono ?_
        rintro e w2 ⟨rfl, t2⟩
        have T2 := hide (TF.out.trans t2)
        have R2 := hide (t2.heap RF.out (fun x => x))
        clear t2 y0 y1 y2 y3 y4 y5 CC
        generalize hk : keepT m ⟨la, lc, ma, mc, ⟨no, sz, ls, ms, en, sq⟩⟩ = kp at *
        clear hk
        cases kp
        · go_wp2_with fail
          go_roundw
          case rel => exact ⟨i, j + 1, Q, rfl, by go_num, ⟨Nat.lt_succ_of_lt hij, (DN.out trivial).le, (DN.out trivial).len, (DN.out trivial).pre, (DN.out trivial).post, (DN.out trivial).row.turns T2.out (fun x => x), (DN.out trivial).turn.trans (T2.out.mono fun _ _ x => x.elim)⟩⟩
          case measure => simp [intOf]; omega
        · obtain ⟨cs, hg, hsz⟩ := HCELL.out _ T2.out
          have c0 := cell_of_row w2 wr.heap.size 0 _ 37 (0, 0) R2.out
          have c1 := cell_of_row w2 wr.heap.size 1 _ 37 (0, 0) R2.out
          have c2 := cell_of_row w2 wr.heap.size 2 _ 37 (0, 0) R2.out
          have c3 := cell_of_row w2 wr.heap.size 3 _ 37 (0, 0) R2.out
          have c4 := cell_of_row w2 wr.heap.size 4 _ 37 (0, 0) R2.out
          have c5 := cell_of_row w2 wr.heap.size 5 _ 37 (0, 0) R2.out
          have e0 := frozen_of_row w2 g (i * 6) _ 37 hg
          have e1 := frozen_of_row w2 g (i * 6 + 1) _ 37 hg
          have e2 := frozen_of_row w2 g (i * 6 + 2) _ 37 hg
          have e3 := frozen_of_row w2 g (i * 6 + 3) _ 37 hg
          have e4 := frozen_of_row w2 g (i * 6 + 4) _ 37 hg
          have e5 := frozen_of_row w2 g (i * 6 + 5) _ 37 hg
          have hcg : ∀ t, t < 6 → ∃ d, w2.cell? ⟨g, i * 6 + t, none⟩ = some d := fun t ht => ⟨_, by rw [cell_of_row w2 g (i * 6 + t) _ 37 (0, 0) hg]; exact Array.getElem?_eq_getElem (by omega)⟩
          obtain ⟨q0, f0⟩ := hcg 0 (by omega)
          obtain ⟨q1, f1⟩ := hcg 1 (by omega)
          obtain ⟨q2, f2⟩ := hcg 2 (by omega)
          obtain ⟨q3, f3⟩ := hcg 3 (by omega)
          obtain ⟨q4, f4⟩ := hcg 4 (by omega)
          obtain ⟨q5, f5⟩ := hcg 5 (by omega)
          rw [Nat.add_zero] at f0
          have DD := hide (DK.out _ T2.out rfl)
          clear hcg hg hsz R2 RF TF DK
          generalize wr.heap.size = GX at *
          go_wp2_with fail
          go_roundw
          case rel => exact ⟨i + 1, j + 1, _, by go_num, by go_num, DD.out⟩
          case measure => simp [intOf]; omega
      · obtain rfl : j = n := by omega
        have hcl : ∀ t, t < (j - i) * 6 → (wr.cell? ⟨g, i * 6 + t, none⟩).isSome = true ∧ wr.frozen? ⟨g, i * 6 + t, none⟩ = false := fun t ht => by
          obtain ⟨cs, h1, h2, h3⟩ := HD.out.row
          have := HLC.out; have := HL.out
          refine ⟨?_, frozen_of_row wr g _ _ 37 h1⟩
          rw [cell_of_row wr g _ _ 37 (0, 0) h1, Array.getElem?_eq_getElem (by omega)]; rfl
        obtain ⟨vs, hvs⟩ := clear37 g (i * 6) (j - i) (c - i) wr (by omega) (fun t ht => (hcl t ht).1) (fun t ht => (hcl t ht).2)
        have hvs2 : (Builtin.clear_ #[50] 0 #[.slice (some ⟨g, i * 6, none⟩) (j - i) (c - i)]).run Try.prog wr = .ok (.tuple #[]) (wr.setCells g (i * 6) vs) := hvs 0
        have i0' : (0 : Int) ≤ i := by omega
        have i1' : (i : Int) ≤ j := by omega
        have i2' : (i : Int) ≤ c := by omega
        clear hcl hvs
        have htn : (R.take j).filter (keepT m) = R.filter (keepT m) := by rw [List.take_of_length_le (by have := HL.out; omega)]
        have HQ := hide (HD.out.pre.trans htn)
        clear htn
        go_wp2_with fail
        go_ret
        have hlen : (Q.take i).length = i := by rw [List.length_take, HD.out.len]; omega
        have h5 := HLC.out
        have h6 := HL.out
        refine ⟨i, rfl, by rw [← HQ.out, hlen], .inr ⟨g, rfl, HB.out, by rw [← HQ.out, hlen]; omega, ?_⟩, (HD.out.turn.trans (turns_setCells _ _ _ _)).mono fun k _ e => by rw [e]⟩
        rw [← HQ.out]
        exact row_cut HD.out.row (by rw [HD.out.len]; omega) vs
end Go.Proofs.Ytmmcikbedegigaa
