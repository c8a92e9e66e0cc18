import Derived.Test.YtmmcikbedegigaaGreatM10
import Derived.Lib.SliceRun
/-
  DeleteFunc of files whose numbers are in no map.
-/
namespace Go.Proofs.YtmmcikbedegigaaGreat
open Go.RowKit
set_option maxRecDepth 100000
set_option maxHeartbeats 4000000
def keepT (m : Nat → Option Int) (x : Tf) : Bool := (m x.f.no).isSome
theorem drop1_any (x : Tf) (V M nn s : Nat) (m : Nat → Option Int) (w : World) (hc : w.cell? ⟨V, 0, none⟩ = some (.map (some M))) (hm : MapN w M nn m s) (hno : x.f.no < 18446744073709551616) :
    Calls Tryz.prog 50 #[x.agg, .pointer (some ⟨V, 0, none⟩)] w fun e w' => e = .returned (.bool (!keepT m x)) ∧ Turns (fun _ => False) w w' := by
  obtain ⟨la, lc, ma, mc, ⟨no, sz, ls, ms, en, sq⟩⟩ := x
  have TA := hide ((Turns.refl (fun _ => False) w).alloc (.cells #[.int .u64 (no : Nat), .int .i64 sz, .slice la ls.length lc, .slice ma ms.length mc, .int .i64 en, .int .u64 (sq : Nat)] 49))
  have hc2 := TA.out.cell hc (fun x => x)
  obtain ⟨v, hl, ⟨z, rfl⟩, hz⟩ := (hm.keep TA.out (fun x => x)).look no hno
  unfold Tf.agg keepT
  simp only
  generalize (m no).isSome = b at *
  clear hz hm hc
  go_enter Tryz.func50, Tryz.ntmps50
  go_wp2_with fail
  go_ret
  exact ⟨rfl, TA.out⟩
theorem index_del (a : Option Addr) (n c : Nat) (l : List Tf) (V M nn s : Nat) (m : Nat → Option Int) (w : World) (h : ∀ (k : Nat) (x : Tf), l[k]? = some x → ∃ b off, a = some ⟨b, off, none⟩ ∧ F6 w b (off + k * 6) x) (hn : n = l.length) (hmx : n ≤ 1000000) (hv : w.cell? ⟨V, 0, none⟩ = some (.map (some M))) (hm : MapN w M nn m s) (hno : ∀ x ∈ l, x.f.no < 18446744073709551616) :
    Calls Tryz.prog 74 #[.slice a n c, .func (.func 50) #[] #[.pointer (some ⟨V, 0, none⟩)]] w fun e w' => ∃ z : Int, e = .returned (.int .i64 z) ∧ ((z = -1 ∧ l.all (keepT m) = true) ∨ ∃ i : Nat, z = i ∧ i < n ∧ (l.take i).all (keepT m) = true ∧ (l.take (i + 1)).filter (keepT m) = l.take i) ∧ Turns (fun _ => False) w w' := by
  have H := hide h
  have HL := hide hn
  have hni : (n : Int) ≤ 1000000 := by omega
  have HM := hide hm
  have HNO := hide hno
  clear h hn hm hno
  go_enter Tryz.func74, Tryz.ntmps74
  go_wp2_with fail
  go_loopw [8] (fun i wr => ∃ k : Nat, i = .int .i64 (k : Nat) ∧ k ≤ n ∧ (l.take k).all (keepT m) = true ∧ Turns (fun _ => False) w wr) (fun i _ => n - (intOf i).toNat)
  case atStart => exact ⟨0, rfl, Nat.zero_le _, rfl, Turns.refl _ _⟩
  case round =>
    obtain ⟨k, rfl, hk, hno, hb⟩ := hrel
    have HAL := hide hno
    have HB := hide hb
    clear hno hb
    by_cases hkn : k < n
    · obtain ⟨x, hx⟩ : ∃ x, l[k]? = some x := ⟨_, List.getElem?_eq_getElem (by have := HL.out; omega)⟩
      obtain ⟨b, off, rfl, h6'⟩ := H.out k x hx
      have h6 := h6'.quiet HB.out
      have i1 : (k : Int) < (n : Int) := by omega
      have i0 : (0 : Int) ≤ (k : Int) := by omega
      have HTK := hide (show (l.take (k + 1)).all (keepT m) = keepT m x by rw [List.take_add_one, hx, List.all_append, HAL.out]; simp)
      have HFI := hide (show keepT m x = false → (l.take (k + 1)).filter (keepT m) = l.take k from fun e => by
        rw [List.take_add_one, hx, List.filter_append, List.filter_eq_self.2 (fun y hy => List.all_eq_true.1 HAL.out y hy)]
        simp [e])
      have CC := hide (drop1_any x V M nn s m wr (HB.out.cell hv (fun x => x)) (HM.out.keep HB.out (fun x => x)) (HNO.out x (List.mem_of_getElem? hx)))
      obtain ⟨y0, y1, y2, y3, y4, y5⟩ := h6
      unfold Tf.agg at CC
      clear hx h6'
      go_wp2_with fail
      refine CC.out.mono ?_
      rintro e w1 ⟨rfl, t1⟩
      have B1 := hide (HB.out.trans t1)
      clear t1 CC y0 y1 y2 y3 y4 y5
      generalize hq : keepT m x = q at *
      clear hq
      cases q
      · go_wp2_with fail
        go_ret
        exact ⟨_, rfl, .inr ⟨k, rfl, hkn, HAL.out, HFI.out trivial⟩, B1.out⟩
      · go_wp2_with fail
        go_roundw
        case rel => exact ⟨k + 1, by go_num, by omega, HTK.out, B1.out⟩
        case measure => simp [intOf]; omega
    · obtain rfl : k = n := by omega
      have ht : l.take k = l := List.take_of_length_le (by have := HL.out; omega)
      rw [ht] at HAL
      clear ht
      go_wp2_with fail
      go_ret
      exact ⟨_, rfl, .inl ⟨rfl, HAL.out⟩, HB.out⟩
theorem clear37 (b o n c : Nat) (w : World) (hn : 0 < n) (hc : ∀ j, j < n * 6 → (w.cell? ⟨b, o + j, none⟩).isSome = true) (hf : ∀ j, j < n * 6 → w.frozen? ⟨b, o + j, none⟩ = false) :
    ∃ vs : List Value, ∀ ty, (Builtin.clear_ #[53] ty #[.slice (some ⟨b, o, none⟩) n c]).run Tryz.prog w = .ok (.tuple #[]) (w.setCells b o vs) := by
  have hzv : ∀ w, (zeroValue 49).run Tryz.prog w = .ok (.agg #[.int .u64 0, .int .i64 0, .slice none 0 0, .slice none 0 0, .int .i64 0, .int .u64 0]) w := by intro w; kernel_rfl
  have hzc : (Value.agg #[.int .u64 0, .int .i64 0, .slice none 0 0, .slice none 0 0, .int .i64 0, .int .u64 0]).cells = #[.int .u64 0, .int .i64 0, .slice none 0 0, .slice none 0 0, .int .i64 0, .int .u64 0] := by rfl
  obtain ⟨vs, hvs⟩ : ∃ vs : List Value, vs = (Builtin.zeroCells #[.int .u64 0, .int .i64 0, .slice none 0 0, .slice none 0 0, .int .i64 0, .int .u64 0] n).toList := ⟨_, rfl⟩
  have hl : vs.length = n * 6 := by rw [hvs]; simp [Builtin.zeroCells]
  have h1 : ∀ v ∈ vs, v.oneCell' = true := by
    intro v hv
    rw [hvs] at hv
    simp [Builtin.zeroCells] at hv
    obtain ⟨j, hj, rfl⟩ := hv
    have : j % 6 < 6 := Nat.mod_lt _ (by decide)
    generalize j % 6 = t at *
    rcases (by omega : t = 0 ∨ t = 1 ∨ t = 2 ∨ t = 3 ∨ t = 4 ∨ t = 5) with rfl | rfl | rfl | rfl | rfl | rfl <;> rfl
  have hst := run_storeCells_cells (P := Tryz.prog) b o vs 0 w (by rw [hl]; simpa using hc) (by rw [hl]; simpa using hf) h1
  simp only [Nat.add_zero] at hst
  refine ⟨vs, fun ty => ?_⟩
  obtain ⟨q, rfl⟩ : ∃ q, n = q + 1 := ⟨n - 1, by omega⟩
  simp [Builtin.clear_, run_underlying Tryz.underlying53, hzv, hzc, ← hvs, hst, Result.andThen]
end Go.Proofs.YtmmcikbedegigaaGreat

/-
  DeleteFunc of files whose numbers are in no map.
-/
namespace Go.Proofs.YtmmcikbedegigaaGreat
open Go.RowKit
set_option maxRecDepth 100000
set_option maxHeartbeats 4000000
theorem row_f6 {w : World} {g c : Nat} {R : List Tf} (h : RowC w g 49 (c * 6) (flCells R)) {k : Nat} {x : Tf} (hx : R[k]? = some x) : F6 w g (0 + k * 6) x := by
  obtain ⟨cs, h1, h2, h3⟩ := h
  have hk := (List.getElem?_eq_some_iff.1 hx).1
  have hl := flCells_length R
  have : ∀ j, j < 6 → w.cell? ⟨g, 0 + k * 6 + j, none⟩ = x.cells[j]? := fun j hj => by
    rw [Nat.zero_add, cell_of_row w g _ cs 49 (0, 0) h1, h3 _ (by omega), flCells_at R k x hx j hj]
  exact ⟨this 0 (by omega), this 1 (by omega), this 2 (by omega), this 3 (by omega), this 4 (by omega), this 5 (by omega)⟩
theorem set_split {Q : List Tf} {i : Nat} {x : Tf} (h : Q[i]? = some x) : Q = Q.take i ++ x :: Q.drop (i + 1) := by
  have hi := (List.getElem?_eq_some_iff.1 h).1
  have e : Q[i] = x := by rw [List.getElem?_eq_getElem hi] at h; exact Option.some.inj h
  conv => lhs; rw [← List.take_append_drop i Q]
  rw [List.drop_eq_getElem_cons hi, e]
theorem row_cut {w : World} {g c i : Nat} {Q : List Tf} (h : RowC w g 49 (c * 6) (flCells Q)) (hi : i ≤ Q.length) (vs : List Value) : RowC (w.setCells g (i * 6) vs) g 49 (c * 6) (flCells (Q.take i)) := by
  obtain ⟨cs, h1, h2, h3⟩ := h
  obtain ⟨cs', k1, k2, k3⟩ := heap_setCells g 49 vs (i * 6) w cs h1
  have hl := flCells_length Q
  have hsplit : flCells Q = flCells (Q.take i) ++ flCells (Q.drop i) := by rw [← flCells_append, List.take_append_drop]
  refine ⟨cs', k1, by omega, fun k hk => ?_⟩
  have hk' := hk
  rw [flCells_length, List.length_take] at hk'
  have h4 := h3 k (by omega)
  have hks : k < cs.size := by
    rcases Nat.lt_or_ge k cs.size with h | h
    · exact h
    · rw [Array.getElem?_eq_none h] at h4
      have := List.getElem?_eq_none_iff.1 h4.symm
      omega
  rw [k3 k hks, if_neg (by omega), h4, hsplit, List.getElem?_append_left hk]
/-- How far the filtering has come. -/
structure Del (w ws : World) (g c n : Nat) (R : List Tf) (m : Nat → Option Int) (i j : Nat) (Q : List Tf) : Prop where
  lt : i < j
  le : j ≤ n
  len : Q.length = n
  pre : Q.take i = (R.take j).filter (keepT m)
  post : Q.drop j = R.drop j
  row : RowC ws g 49 (c * 6) (flCells Q)
  turn : Turns (fun k => k = g) w ws
theorem delFunc_any (a : Option Addr) (n c : Nat) (R : List Tf) (B V M nn s : Nat) (m : Nat → Option Int) (w : World) (h : RowOk w B a c R) (hn : n = R.length) (hmx : n ≤ 1000000) (hv : w.heap[V]? = some (.cells #[.map (some M)] 99 (0, 0))) (hm : MapN w M nn m s) (hno : ∀ x ∈ R, x.f.no < 18446744073709551616) :
    Calls Tryz.prog 49 #[.slice a n c, .func (.func 50) #[] #[.pointer (some ⟨V, 0, none⟩)]] w fun e w' => ∃ n', e = .returned (.slice a n' c) ∧ n' = (R.filter (keepT m)).length ∧ RowOk w' B a c (R.filter (keepT m)) ∧ Turns (fun j => a = some ⟨j, 0, none⟩) w w' := by
  have hcv : w.cell? ⟨V, 0, none⟩ = some (.map (some M)) := cell_of_row w V 0 _ 99 (0, 0) hv
  have IX := hide (index_del a n c R V M nn s m w (fun k x hx => by
    rcases h with ⟨_, e, _⟩ | ⟨g, e, _, _, hr⟩
    · rw [e] at hx; simp at hx
    · exact ⟨g, 0, e, row_f6 hr hx⟩) hn hmx hcv hm hno)
  have H := hide h
  have HL := hide hn
  have hni : (n : Int) ≤ 1000000 := by omega
  have HM := hide hm
  have HNO := hide hno
  have HV := hide hv
  clear h hn hm hno hv hcv
  go_enter Tryz.func49, Tryz.ntmps49
  go_wp2_with fail
  refine IX.out.mono ?_
  rintro e w1 ⟨z, rfl, hz, t1⟩
  have T1 := hide t1
  clear t1 IX
  rcases hz with ⟨rfl, hall⟩ | ⟨i0, rfl, hi0, hal, hfi⟩
  · have hf : R.filter (keepT m) = R := List.filter_eq_self.2 fun y hy => List.all_eq_true.1 hall y hy
    have HF := hide hf
    clear hf hall
    go_wp2_with fail
    go_ret
    exact ⟨n, rfl, by rw [HF.out]; exact HL.out, by rw [HF.out]; exact H.out.keep T1.out fun _ _ x => x, T1.out.mono fun _ _ x => x.elim⟩
  · obtain ⟨g, rfl, hB, hlc, hrow⟩ : ∃ g, a = some ⟨g, 0, none⟩ ∧ B ≤ g ∧ R.length ≤ c ∧ RowC w g 49 (c * 6) (flCells R) := by
      rcases H.out with ⟨_, e, _⟩ | h
      · have := HL.out; rw [e] at this; simp at this; omega
      · exact h
    have HB := hide hB
    have HLC := hide hlc
    have hcn : (n : Int) ≤ c := by have := HL.out; omega
    have HFI := hide hfi
    have D0 := hide (show Del w w1 g c n R m i0 (i0 + 1) R from ⟨by omega, by omega, HL.out.symm, HFI.out.symm, rfl, hrow.turns T1.out (fun x => x), T1.out.mono fun _ _ x => x.elim⟩)
    have ii : ¬ (i0 : Int) = -1 := by omega
    have VG := hide (show ¬ V = g from fun e => by obtain ⟨cs, h1, _⟩ := hrow; have h2 := HV.out; rw [e, h1] at h2; cases h2)
    have MG := hide (show ¬ M = g from fun e => by obtain ⟨cs, h1, _⟩ := hrow; rw [← e] at h1; exact HM.out.notCells h1)
    clear hfi hal hrow hB hlc
    go_wp2_with fail
    rw [show ((i0 : Int) == -1) = false by simp]
    go_loopw [5, 6] (fun vi vj ws => ∃ (i j : Nat) (Q : List Tf), vi = .int .i64 (i : Nat) ∧ vj = .int .i64 (j : Nat) ∧ Del w ws g c n R m i j Q) (fun _ vj _ => n - (intOf vj).toNat)
    case atStart => exact ⟨i0, i0 + 1, R, rfl, by go_num, D0.out⟩
    case round =>
      obtain ⟨i, j, Q, rfl, rfl, hd⟩ := hrel
      have HD := hide hd
      have hij := hd.lt
      have hjn := hd.le
      clear hd
      by_cases hj : j < n
      · obtain ⟨y, hy⟩ : ∃ y, Q[j]? = some y := ⟨_, List.getElem?_eq_getElem (by have := HD.out.len; omega)⟩
        have hyR : R[j]? = some y := by
          have e := HD.out.post
          have h1 : (Q.drop j)[0]? = some y := by rw [List.getElem?_drop]; exact hy
          rw [e, List.getElem?_drop] at h1
          exact h1
        have h6 := row_f6 HD.out.row hy
        have j1 : (j : Int) < n := by omega
        have j0 : (0 : Int) ≤ j := by omega
        have i0' : (0 : Int) ≤ i := by omega
        have i1' : (i : Int) < n := by omega
        have hvw := HD.out.turn.heap HV.out VG.out
        have CC := hide (fun (u : World) (t : Turns (fun _ => False) wr u) => drop1_any y V M nn s m u (t.cell (cell_of_row wr V 0 _ 99 (0, 0) hvw) (fun x => x)) ((HM.out.keep HD.out.turn MG.out).keep t (fun x => x)) (HNO.out y (List.mem_of_getElem? hyR)))
        have DN := hide (show keepT m y = false → Del w wr g c n R m i (j + 1) Q from fun e => ⟨by omega, by omega, HD.out.len, by rw [HD.out.pre, List.take_add_one, hyR, List.filter_append]; simp [e], by rw [← List.drop_drop, HD.out.post, List.drop_drop], HD.out.row, HD.out.turn⟩)
        obtain ⟨x, hx⟩ : ∃ x, Q[i]? = some x := ⟨_, List.getElem?_eq_getElem (by have := HD.out.len; omega)⟩
        have DK := hide (show ∀ u, Turns (fun _ => False) wr u → keepT m y = true → Del w (u.setCells g (i * 6) y.cells) g c n R m (i + 1) (j + 1) (Q.take i ++ y :: Q.drop (i + 1)) from fun u t e => by
          have hlq := HD.out.len
          have htl : (Q.take i).length = i := by rw [List.length_take]; omega
          refine ⟨by omega, by omega, by simp; omega, ?_, ?_, ?_, (HD.out.turn.trans (t.mono fun _ _ x => x.elim)).trans (turns_setCells _ _ _ _)⟩
          · rw [List.take_append, htl, List.take_of_length_le (by omega), HD.out.pre, List.take_add_one, hyR, List.filter_append]
            simp [e]
          · have : (Q.take i ++ y :: Q.drop (i + 1)).drop (j + 1) = Q.drop (j + 1) := by
              rw [List.drop_append, htl, List.drop_eq_nil_of_le (by omega), List.nil_append, show j + 1 - i = (j - i) + 1 by omega, List.drop_succ_cons, List.drop_drop]
              congr 1; omega
            rw [this, ← List.drop_drop, HD.out.post, List.drop_drop]
          · have h1 := HD.out.row.turns t (fun x => x)
            rw [set_split hx] at h1
            exact row_put h1 htl)
        have HCELL := hide (show ∀ u, Turns (fun _ => False) wr u → ∃ cs, u.heap[g]? = some (.cells cs 49 (0, 0)) ∧ i * 6 + 6 ≤ cs.size from fun u t => by
          obtain ⟨cs, h1, h2, h3⟩ := HD.out.row
          have := HLC.out; have := HL.out
          exact ⟨cs, t.heap h1 (fun x => x), by omega⟩)
        obtain ⟨la, lc, ma, mc, ⟨no, sz, ls, ms, en, sq⟩⟩ := y
        simp only [cells6] at DK
        obtain ⟨y0, y1, y2, y3, y4, y5⟩ := h6
        unfold Tf.agg at CC
        simp only at *
        generalize ls.length = L1 at *
        generalize ms.length = L2 at *
        clear hy hyR hvw hx
        have TF := hide ((Turns.refl (fun _ => False) wr).alloc (.cells #[.int .u64 (no : Nat), .int .i64 sz, .slice la L1 lc, .slice ma L2 mc, .int .i64 en, .int .u64 (sq : Nat)] 49))
        have RF := hide (heap_alloc_new wr (.cells #[.int .u64 (no : Nat), .int .i64 sz, .slice la L1 lc, .slice ma L2 mc, .int .i64 en, .int .u64 (sq : Nat)] 49))
        rw [Nat.zero_add] at y0 y1 y2 y3 y4 y5
        go_wp2_with fail
        refine (CC.out _ TF.out).mono ?_
        rintro e w2 ⟨rfl, t2⟩
        have T2 := hide (TF.out.trans t2)
        have R2 := hide (t2.heap RF.out (fun x => x))
        clear t2 y0 y1 y2 y3 y4 y5 CC
        generalize hk : keepT m ⟨la, lc, ma, mc, ⟨no, sz, ls, ms, en, sq⟩⟩ = kp at *
        clear hk
        cases kp
        · go_wp2_with fail
          go_roundw
          case rel => exact ⟨i, j + 1, Q, rfl, by go_num, ⟨Nat.lt_succ_of_lt hij, (DN.out trivial).le, (DN.out trivial).len, (DN.out trivial).pre, (DN.out trivial).post, (DN.out trivial).row.turns T2.out (fun x => x), (DN.out trivial).turn.trans (T2.out.mono fun _ _ x => x.elim)⟩⟩
          case measure => simp [intOf]; omega
        · obtain ⟨cs, hg, hsz⟩ := HCELL.out _ T2.out
          have c0 := cell_of_row w2 wr.heap.size 0 _ 49 (0, 0) R2.out
          have c1 := cell_of_row w2 wr.heap.size 1 _ 49 (0, 0) R2.out
          have c2 := cell_of_row w2 wr.heap.size 2 _ 49 (0, 0) R2.out
          have c3 := cell_of_row w2 wr.heap.size 3 _ 49 (0, 0) R2.out
          have c4 := cell_of_row w2 wr.heap.size 4 _ 49 (0, 0) R2.out
          have c5 := cell_of_row w2 wr.heap.size 5 _ 49 (0, 0) R2.out
          have e0 := frozen_of_row w2 g (i * 6) _ 49 hg
          have e1 := frozen_of_row w2 g (i * 6 + 1) _ 49 hg
          have e2 := frozen_of_row w2 g (i * 6 + 2) _ 49 hg
          have e3 := frozen_of_row w2 g (i * 6 + 3) _ 49 hg
          have e4 := frozen_of_row w2 g (i * 6 + 4) _ 49 hg
          have e5 := frozen_of_row w2 g (i * 6 + 5) _ 49 hg
          have hcg : ∀ t, t < 6 → ∃ d, w2.cell? ⟨g, i * 6 + t, none⟩ = some d := fun t ht => ⟨_, by rw [cell_of_row w2 g (i * 6 + t) _ 49 (0, 0) hg]; exact Array.getElem?_eq_getElem (by omega)⟩
          obtain ⟨q0, f0⟩ := hcg 0 (by omega)
          obtain ⟨q1, f1⟩ := hcg 1 (by omega)
          obtain ⟨q2, f2⟩ := hcg 2 (by omega)
          obtain ⟨q3, f3⟩ := hcg 3 (by omega)
          obtain ⟨q4, f4⟩ := hcg 4 (by omega)
          obtain ⟨q5, f5⟩ := hcg 5 (by omega)
          rw [Nat.add_zero] at f0
          have DD := hide (DK.out _ T2.out rfl)
          clear hcg hg hsz R2 RF TF DK
          generalize wr.heap.size = GX at *
          go_wp2_with fail
          go_roundw
          case rel => exact ⟨i + 1, j + 1, _, by go_num, by go_num, DD.out⟩
          case measure => simp [intOf]; omega
      · obtain rfl : j = n := by omega
        have hcl : ∀ t, t < (j - i) * 6 → (wr.cell? ⟨g, i * 6 + t, none⟩).isSome = true ∧ wr.frozen? ⟨g, i * 6 + t, none⟩ = false := fun t ht => by
          obtain ⟨cs, h1, h2, h3⟩ := HD.out.row
          have := HLC.out; have := HL.out
          refine ⟨?_, frozen_of_row wr g _ _ 49 h1⟩
          rw [cell_of_row wr g _ _ 49 (0, 0) h1, Array.getElem?_eq_getElem (by omega)]; rfl
        obtain ⟨vs, hvs⟩ := clear37 g (i * 6) (j - i) (c - i) wr (by omega) (fun t ht => (hcl t ht).1) (fun t ht => (hcl t ht).2)
        have hvs2 : (Builtin.clear_ #[53] 0 #[.slice (some ⟨g, i * 6, none⟩) (j - i) (c - i)]).run Tryz.prog wr = .ok (.tuple #[]) (wr.setCells g (i * 6) vs) := hvs 0
        have i0' : (0 : Int) ≤ i := by omega
        have i1' : (i : Int) ≤ j := by omega
        have i2' : (i : Int) ≤ c := by omega
        clear hcl hvs
        have htn : (R.take j).filter (keepT m) = R.filter (keepT m) := by rw [List.take_of_length_le (by have := HL.out; omega)]
        have HQ := hide (HD.out.pre.trans htn)
        clear htn
        go_wp2_with fail
        go_ret
        have hlen : (Q.take i).length = i := by rw [List.length_take, HD.out.len]; omega
        have h5 := HLC.out
        have h6 := HL.out
        refine ⟨i, rfl, by rw [← HQ.out, hlen], .inr ⟨g, rfl, HB.out, by rw [← HQ.out, hlen]; omega, ?_⟩, (HD.out.turn.trans (turns_setCells _ _ _ _)).mono fun k _ e => by rw [e]⟩
        rw [← HQ.out]
        exact row_cut HD.out.row (by rw [HD.out.len]; omega) vs
end Go.Proofs.YtmmcikbedegigaaGreat

/-
  One list of one's own is laid anew; drops.
-/
namespace Go.Proofs.YtmmcikbedegigaaGreat
open Go.RowKit
set_option maxRecDepth 100000
set_option maxHeartbeats 4000000
/-- The blocks of lists of one's own. -/
def own (G : Nat) (L : List Lv) (k : Nat) : Prop := k = G ∨ ∃ (j : Nat) (x : Lv), L[j]? = some x ∧ x.a = some ⟨k, 0, none⟩
theorem DR.own_ge {w : World} {B G N : Nat} {L : List Lv} (h : DR w B G N L) {k : Nat} (hk : own G L k) : B ≤ k := by
  rcases hk with rfl | ⟨j, x, hx, e⟩
  · exact h.hG
  · rcases h.rows j x hx with ⟨e3, _⟩ | ⟨g2, e3, h5, _⟩
    · rw [e3] at e; cases e
    · rw [e3] at e; cases e; exact h5
theorem DR.own_lt {w : World} {B G N : Nat} {L : List Lv} (h : DR w B G N L) {k : Nat} (hk : own G L k) : k < w.heap.size := by
  rcases hk with rfl | ⟨j, x, hx, e⟩
  · obtain ⟨cs, h1, _⟩ := h.head; exact lt_of_heap h1
  · exact h.lt hx e
theorem DR.not_own {w : World} {B G N p : Nat} {L : List Lv} (h : DR w B G N L) {cs : Array Value} {ty : TypeId} {z : Nat × Nat} (hp : w.heap[p]? = some (.cells cs ty z)) (h1 : ty ≠ 53) (h2 : ty ≠ 49) : ¬ own G L p := by
  rintro (rfl | ⟨j, x, hx, e⟩)
  · obtain ⟨cs', e1, _⟩ := h.head; rw [e1] at hp; cases hp; exact h1 rfl
  · exact (h.rows j x hx).ne hp h2 p e rfl
theorem DR.not_map {w : World} {B G N M n s : Nat} {L : List Lv} {m : Nat → Option Int} (h : DR w B G N L) (hm : MapN w M n m s) : ¬ own G L M := by
  rintro (rfl | ⟨j, x, hx, e⟩)
  · obtain ⟨cs', e1, _⟩ := h.head; exact hm.notCells e1
  · rcases h.rows j x hx with ⟨e3, _⟩ | ⟨g2, e3, h5, _, cs2, h6, _⟩
    · rw [e3] at e; cases e
    · rw [e3] at e; cases e; exact hm.notCells h6
/-- One list is laid anew. -/
theorem DR.redo {w w' : World} {B G N k : Nat} {L : List Lv} (h : DR w B G N L) {x : Lv} (hx : L[k]? = some x) (hN : k < N) (t : Turns (fun j => x.a = some ⟨j, 0, none⟩) w w') {a' : Option Addr} {c' : Nat} {R' : List Tf} (hr : RowOk w' B a' c' R')
    (hap : ∀ g, a' = some ⟨g, 0, none⟩ → x.a = some ⟨g, 0, none⟩ ∨ w.heap.size ≤ g) (hf : ∀ y ∈ R', FT w' B y) : DR (w'.setCell ⟨G, k, none⟩ (.slice a' R'.length c')) B G N (L.set k ⟨a', c', R'⟩) := by
  have hkl := (List.getElem?_eq_some_iff.1 hx).1
  obtain ⟨cs, h1, h2, h3⟩ := h.head
  have hG' : w'.heap[G]? = some (.cells cs 53 (0, 0)) := t.heap h1 (fun e => (h.rows k x hx).ne h1 (by decide) G e rfl)
  have tk := (Tick.refl hG').set k (.slice a' R'.length c')
  have u := Turns.of_tick tk
  have hat : ∀ (j : Nat) (y : Lv), (L.set k ⟨a', c', R'⟩)[j]? = some y → (j ≠ k ∧ L[j]? = some y) ∨ (j = k ∧ y = ⟨a', c', R'⟩) := fun j y hy => by
    by_cases hj : j = k
    · subst hj; rw [List.getElem?_set_self hkl] at hy; exact .inr ⟨rfl, (Option.some.inj hy).symm⟩
    · rw [List.getElem?_set_ne (by omega)] at hy; exact .inl ⟨hj, hy⟩
  have hrow : ∀ (j : Nat) (y : Lv), j ≠ k → L[j]? = some y → RowOk w' B y.a y.c y.l := fun j y hj hy => (h.rows j y hy).keep t fun g e e2 => h.apart j k y x hj hy hx g e e2
  have hrG : ∀ {a c R}, RowOk w' B a c R → RowOk (w'.setCell ⟨G, k, none⟩ (.slice a' R'.length c')) B a c R := fun hr => hr.keep u fun g e e2 => hr.ne hG' (by decide) g e e2
  have hft : ∀ y, FT w' B y → FT (w'.setCell ⟨G, k, none⟩ (.slice a' R'.length c')) B y := fun y hy => hy.keep u fun j e _ cs' z' e2 => by subst e; rw [hG'] at e2; cases e2
  refine ⟨⟨_, tk.1, by simpa using h2, fun j y hy => ?_⟩, h.hG, fun j y hy => ?_, fun i j y z hij hy hz g e => ?_, fun y hy z hz => ?_⟩
  · rcases hat j y hy with ⟨hj, hy⟩ | ⟨rfl, rfl⟩
    · rw [Array.getElem?_setIfInBounds_ne (by omega)]; exact h3 j y hy
    · rw [Array.getElem?_setIfInBounds_self_of_lt (by omega)]
  · rcases hat j y hy with ⟨hj, hy⟩ | ⟨rfl, rfl⟩
    · exact hrG (hrow j y hj hy)
    · exact hrG hr
  · rcases hat i y hy with ⟨hi, hy1⟩ | ⟨rfl, rfl⟩
    · rcases hat j z hz with ⟨hj, hz1⟩ | ⟨rfl, rfl⟩
      · exact h.apart i j y z hij hy1 hz1 g e
      · intro e2
        rcases hap g e2 with e3 | e3
        · exact h.apart i j y x hi hy1 hx g e e3
        · have := h.lt hy1 e; omega
    · rcases hat j z hz with ⟨hj, hz1⟩ | ⟨rfl, rfl⟩
      · intro e2
        rcases hap g e with e3 | e3
        · exact h.apart j i z x hj hz1 hx g e2 e3
        · have := h.lt hz1 e2; omega
      · omega
  · obtain ⟨j, hj⟩ := List.getElem?_of_mem hy
    rcases hat j y hj with ⟨hj2, hy1⟩ | ⟨rfl, rfl⟩
    · refine hft z ((h.files y (List.mem_of_getElem? hy1) z hz).keep t fun j e _ cs' z' e2 => ?_)
      exact (h.rows k x hx).ne e2 (by decide) j e rfl
    · exact hft z (hf z hz)
/-- Drops in memory. -/
def Drops (w : World) (a : Option Addr) (D : List (Int × Nat)) : Prop := ∀ (k : Nat) (d : Int × Nat), D[k]? = some d → d.2 < 18446744073709551616 ∧ ∃ b off, a = some ⟨b, off, none⟩ ∧ w.cell? ⟨b, off + k * 2, none⟩ = some (.int .i64 d.1) ∧ w.cell? ⟨b, off + k * 2 + 1, none⟩ = some (.int .u64 (d.2 : Nat))
theorem Drops.quiet {w w' : World} {a : Option Addr} {D : List (Int × Nat)} (h : Drops w a D) (t : Turns (fun _ => False) w w') : Drops w' a D := fun k d hd => by
  obtain ⟨h0, b, off, e, c1, c2⟩ := h k d hd
  exact ⟨h0, b, off, e, t.cell c1 (fun x => x), t.cell c2 (fun x => x)⟩
def dropsP : (Nat → Option Int) → List (Int × Nat) → Option (Nat → Option Int)
  | m, [] => some m
  | m, d :: r => if m d.2 = some d.1 then dropsP (upd m d.2 none) r else none
theorem dropsP_drop {m m' : Nat → Option Int} {D : List (Int × Nat)} {k : Nat} {d : Int × Nat} (hd : D[k]? = some d) (h : dropsP m D = dropsP m' (D.drop k)) : dropsP m D = if m' d.2 = some d.1 then dropsP (upd m' d.2 none) (D.drop (k + 1)) else none := by
  have hk := (List.getElem?_eq_some_iff.1 hd).1
  rw [h, List.drop_eq_getElem_cons hk]
  have e : D[k] = d := by rw [List.getElem?_eq_getElem hk] at hd; exact Option.some.inj hd
  rw [e]
  rfl
def keepF (m : Nat → Option Int) (f : Fl) : Bool := (m f.no).isSome
theorem fls_filter (m : Nat → Option Int) (l : List Tf) : fls (l.filter (keepT m)) = (fls l).filter (keepF m) := by
  unfold fls
  rw [List.filter_map]
  rfl
end Go.Proofs.YtmmcikbedegigaaGreat

/-
  drop.
-/
namespace Go.Proofs.YtmmcikbedegigaaGreat
open Go.RowKit
set_option maxRecDepth 100000
set_option maxHeartbeats 4000000
theorem flL_length (L : List Lv) : (flL L).length = L.length := by simp [flL]
theorem flL_at {L : List Lv} {k : Nat} {x : Lv} (h : L[k]? = some x) : (flL L)[k]? = some (fls x.l) := by simp [flL, h]
theorem drop_any (w0 w : World) (T0 : Turns (fun _ => False) w0 w) (G c : Nat) (L : List Lv) (da : Option Addr) (dn dc : Nat) (D : List (Int × Nat)) (h : DR w w0.heap.size G 5 L) (hl : L.length = 5) (hc : cnt L ≤ 100000) (hf : Fit L) (hD : Drops w0 da D) (hdn : dn = D.length) (hdm : dn ≤ 1000) :
    Calls Tryz.prog 18 #[.agg #[.slice (some ⟨G, 0, none⟩) 5 c], .slice da dn dc] w fun e w' => Turns (own G L) w w' ∧ ((dropsP (mp (pairsL L)) D = none ∧ e = .returned (.int .i64 6)) ∨ ∃ m L', dropsP (mp (pairsL L)) D = some m ∧ e = .returned (.int .i64 0) ∧ L'.length = 5 ∧ DR w' w0.heap.size G 5 L' ∧ flL L' = (flL L).map (List.filter (keepF m)) ∧ L'.map (·.a) = L.map (·.a)) := by
  have TA := hide ((Turns.refl (fun _ => False) w).alloc (.cells #[.slice (some ⟨G, 0, none⟩) 5 c] 58))
  have R0 := hide (heap_alloc_new w (.cells #[.slice (some ⟨G, 0, none⟩) 5 c] 58))
  have CLO := hide (levelOf_any (some ⟨G, 0, none⟩) 5 c L _ (h.levs.quiet TA.out) hl.symm (by omega) (by omega) hf)
  have H := hide h
  have HL := hide hl
  have HC := hide hc
  have HF := hide hf
  have HDD := hide hD
  have HDN := hide hdn
  have HT0 := hide T0
  have hdi : (dn : Int) ≤ 1000 := by omega
  clear h hl hc hf hD hdn T0
  go_enter Tryz.func18, Tryz.ntmps18
  go_wp2_with fail
  refine CLO.out.mono ?_
  rintro e w1 ⟨M, rfl, hM, hm, t1⟩
  have T1 := hide (TA.out.trans t1)
  have RP := hide (t1.heap R0.out (fun x => x))
  have HM1 := hide hm
  have HMS := hide hM
  have TB := hide ((Turns.refl (fun _ => False) w1).alloc (.cells #[.map (some M)] 99))
  have RV0 := hide (heap_alloc_new w1 (.cells #[.map (some M)] 99))
  clear hM hm t1 CLO
  go_wp2_with fail
  have RP2 := hide (TB.out.heap RP.out (fun x => x))
  have HM2 := hide (HM1.out.keep TB.out (fun x => x))
  have T2 := hide (T1.out.trans TB.out)
  have HPV := hide (show w.heap.size < w1.heap.size by exact lt_of_heap RP.out)
  have HMV := hide (show M < w1.heap.size from HM1.out.lt)
  generalize w1.alloc (.cells #[.map (some M)] 99) = w2 at *
  generalize w1.heap.size = V at *
  generalize hP : w.heap.size = P at *
  have HP := hide hP
  clear hP TB RP HM1 T1
  have c5 := cell_of_row w2 V 0 _ 99 (0, 0) RV0.out
  clear c5
  go_loopw [16] (fun i wr => ∃ (k : Nat) (m : Nat → Option Int) (s : Nat), i = .int .i64 (k : Nat) ∧ k ≤ dn ∧ dropsP (mp (pairsL L)) D = dropsP m (D.drop k) ∧ MapN wr M (cnt L) m s ∧ Turns (fun j => j = M) w2 wr) (fun i _ => dn - (intOf i).toNat)
  case atStart => exact ⟨0, _, _, rfl, Nat.zero_le _, rfl, HM2.out, Turns.refl _ _⟩
  case round =>
    obtain ⟨k, m, s, rfl, hk, hdp, hm, hb⟩ := hrel
    have HDP := hide hdp
    have HMM := hide hm
    have HB := hide hb
    have HW := hide (show Turns (fun _ => False) w wr from T2.out.andThen hb fun j hj e => by have := HMS.out; have := HP.out; simp at *; omega)
    clear hdp hm hb
    by_cases hkn : k < dn
    · obtain ⟨d, hd⟩ : ∃ d, D[k]? = some d := ⟨_, List.getElem?_eq_getElem (by have := HDN.out; omega)⟩
      obtain ⟨hno, b, off, rfl, y0, y1⟩ := (HDD.out.quiet (HT0.out.trans HW.out)) k d hd
      have hst := dropsP_drop hd HDP.out
      have HST := hide hst
      have i1 : (k : Int) < dn := by omega
      have i0 : (0 : Int) ≤ k := by omega
      obtain ⟨lv, no⟩ := d
      simp only at *
      have TF := hide ((Turns.refl (fun _ => False) wr).alloc (.cells #[.int .i64 lv, .int .u64 (no : Nat)] 52))
      have hcV : (wr.alloc (.cells #[.int .i64 lv, .int .u64 (no : Nat)] 52)).cell? ⟨V, 0, none⟩ = some (.map (some M)) := TF.out.cell (HB.out.cell (cell_of_row w2 V 0 _ 99 (0, 0) RV0.out) (show ¬ V = M by have := HMV.out; omega)) (fun x => x)
      obtain ⟨v, hlk, ⟨z, rfl⟩, hz⟩ := (HMM.out.keep TF.out (fun x => x)).look no hno
      obtain ⟨w3, hdel, hm3, ht3⟩ := (HMM.out.keep TF.out (fun x => x)).drop no hno 0
      have HM3 := hide hm3
      have HT3 := hide ht3
      have hcV3 := hcV
      clear hd hst hm3 ht3 hno
      cases hmn : m no with
      | none =>
        rw [hmn] at hlk HST
        clear hz hmn
        go_wp2_with fail
        go_ret
        exact ⟨(HW.out.trans TF.out).mono fun _ _ x => x.elim, .inl ⟨by rw [HST.out]; simp, rfl⟩⟩
      | some z' =>
        have ez := hz z' hmn
        injection ez with _ ez
        subst ez
        rw [hmn] at hlk HST
        have HMN := hide hmn
        clear hz hmn
        by_cases hzl : z = lv
        · subst hzl
          go_wp2_with fail
          go_roundw
          case rel => exact ⟨k + 1, _, _, by go_num, by omega, by rw [HST.out]; simp, HM3.out, (HB.out.trans (TF.out.mono fun _ _ x => x.elim)).trans HT3.out⟩
          case measure => simp [intOf]; omega
        · go_wp2_with fail
          go_ret
          exact ⟨(HW.out.trans TF.out).mono fun _ _ x => x.elim, .inl ⟨by rw [HST.out]; simp [hzl], rfl⟩⟩
    · obtain rfl : k = dn := by omega
      have hdr : D.drop k = [] := List.drop_eq_nil_of_le (by have := HDN.out; omega)
      have HSM := hide (show dropsP (mp (pairsL L)) D = some m by rw [HDP.out, hdr]; rfl)
      have RVW := hide (HB.out.heap RV0.out (show ¬ V = M by have := HMV.out; omega))
      have RPW := hide (HB.out.heap RP2.out (show ¬ P = M by have := HMS.out; have := HP.out; simp at *; omega))
      have HDW := hide (H.out.quiet HW.out)
      have hp0 := cell_of_row wr P 0 _ 58 (0, 0) RPW.out
      clear hdr HDP HB
      generalize hwl : wr = wl at *
      clear hwl
      go_wp2_with fail
      clear hp0
      go_loopw [42] (fun i wr => ∃ (k : Nat) (L2 : List Lv), i = .int .i64 (k : Nat) ∧ k ≤ 5 ∧ L2.length = 5 ∧ DR wr w0.heap.size G 5 L2 ∧ flL L2 = ((flL L).take k).map (List.filter (keepF m)) ++ (flL L).drop k ∧ L2.map (·.a) = L.map (·.a) ∧ MapN wr M (cnt L) m s ∧ wr.heap[V]? = some (.cells #[.map (some M)] 99 (0, 0)) ∧ wr.heap[P]? = some (.cells #[.slice (some ⟨G, 0, none⟩) 5 c] 58 (0, 0)) ∧ Turns (own G L) w wr) (fun i _ => 5 - (intOf i).toNat)
      case atStart => exact ⟨0, L, rfl, Nat.zero_le _, HL.out, HDW.out, by simp, rfl, HMM.out, RVW.out, RPW.out, HW.out.mono fun _ _ x => x.elim⟩
      case round =>
        obtain ⟨q, L2, rfl, hq, hl2, hd2, hf2, ha2, hm2, hv2, hp2, ht2⟩ := hrel
        have HL2 := hide hl2
        have HD := hide hd2
        have HF2 := hide hf2
        have HA2 := hide ha2
        have HM5 := hide hm2
        have HV2 := hide hv2
        have HP2 := hide hp2
        have HT2 := hide ht2
        clear hl2 hd2 hf2 ha2 hm2 hv2 hp2 ht2
        by_cases hqn : q < 5
        · obtain ⟨x, hx⟩ : ∃ x, L2[q]? = some x := ⟨_, List.getElem?_eq_getElem (by have := HL2.out; omega)⟩
          obtain ⟨x0, hx0⟩ : ∃ x, L[q]? = some x := ⟨_, List.getElem?_eq_getElem (by have := HL.out; omega)⟩
          have hxf : fls x.l = fls x0.l := by
            have h1 := flL_at hx
            rw [HF2.out, List.getElem?_append_right (by simp [flL_length, HL.out]; omega), List.getElem?_drop] at h1
            simp only [List.length_map, List.length_take, flL_length, HL.out] at h1
            rw [show q + (q - min q 5) = q by omega, flL_at hx0] at h1
            exact (Option.some.inj h1).symm
          have hxl : x.l.length ≤ 1000000 := by
            have h1 := congrArg List.length hxf
            simp only [fls, List.length_map] at h1
            have := cnt_take hx0; have := cnt_take_le L (q + 1); have := HC.out; omega
          have hxn : ∀ y ∈ x.l, y.f.no < 18446744073709551616 := fun y hy => by
            have h1 : y.f ∈ fls x0.l := by rw [← hxf]; exact List.mem_map.2 ⟨y, hy, rfl⟩
            obtain ⟨y', hy', e⟩ := List.mem_map.1 h1
            rw [← e]; exact HF.out x0 (List.mem_of_getElem? hx0) y' hy'
          have HX := hide hx
          have HX0 := hide hx0
          have HXF := hide hxf
          obtain ⟨⟨b, off, e, hcl⟩, _⟩ := HD.out.levs q x hx
          cases e
          rw [Nat.zero_add] at hcl
          have CF := hide (fun (u : World) (t : Turns (fun _ => False) wr u) => delFunc_any x.a x.l.length x.c x.l w0.heap.size V M (cnt L) s m u ((HD.out.rows q x hx).keep t fun _ _ x => x) rfl hxl (t.heap HV2.out (fun x => x)) (HM5.out.keep t (fun x => x)) hxn)
          have NP := hide (show ∀ g, x.a = some ⟨g, 0, none⟩ → ¬ g = P from (HD.out.rows q x hx).ne HP2.out (by decide))
          have NV := hide (show ∀ g, x.a = some ⟨g, 0, none⟩ → ¬ g = V from (HD.out.rows q x hx).ne HV2.out (by decide))
          have NM := hide (show ¬ x.a = some ⟨M, 0, none⟩ from fun e => HD.out.not_map HM5.out (.inr ⟨q, x, hx, e⟩))
          obtain ⟨xa, xc, xl⟩ := x
          simp only at *
          generalize hXL : xl.length = XL at *
          have i1 : (q : Int) < 5 := by omega
          have i0 : (0 : Int) ≤ q := by omega
          clear hx hx0 hxf hxl hxn hXL
          go_upto_region 13 with (fail)
          have tV : Turns (fun j => xa = some ⟨j, 0, none⟩) wr wr.drew := (Turns.refl _ _).drew
          have tF : Turns (fun _ => False) wr wr.drew := (Turns.refl _ _).drew
          have SK := hide (fun (u : World) (t : Turns (fun j => xa = some ⟨j, 0, none⟩) wr u) => show u.cell? ⟨P, 0, none⟩ = some (.slice (some ⟨G, 0, none⟩) 5 c) from t.cell (cell_of_row wr P 0 _ 58 (0, 0) HP2.out) (fun e => NP.out _ e rfl))
          refine wp_region_z_drew 7 (S := fun u => u.cell? ⟨P, 0, none⟩ = some (.slice (some ⟨G, 0, none⟩) 5 c)) (by kernel_rfl) (SK.out _ tV) (fun _ => ?_)
          change wpAnyZ _ _ _ _ _ _ 8 (Array.replicate 8 false) _ _
          refine wpAnyZ_take (i := 0) (oi := { dst := some 47, op := Op.fieldAddr 58 (Operand.tmp 2) 0, type := 0, pos := "lists.go:75", after := #[], guard := none }) (v := .pointer (some ⟨P, 0, none⟩)) rfl (by kernel_rfl) (by kernel_rfl) (by kernel_rfl) (by kernel_rfl) (fun _ _ _ h => h) (Or.inl ⟨by rfl, ?_⟩) (SK.out _ tV) ?_
          · rintro w s0
            go_simp
          simp only [Act.put, List.setIfInBounds_toArray, List.set_cons_zero, List.set_cons_succ]
          refine wpAnyZ_take (i := 1) (oi := { dst := some 48, op := Op.load 24 (Operand.tmp 47), type := 24, pos := "lists.go:75", after := #[{ on := 0, ground := Ground.data }], guard := none }) (v := .slice (some ⟨G, 0, none⟩) 5 c) rfl (by kernel_rfl) (by kernel_rfl) (by kernel_rfl) (by kernel_rfl) (fun _ _ _ h => h) (Or.inl ⟨by rfl, ?_⟩) (SK.out _ tV) ?_
          · rintro w s0
            go_simp
          simp only [Act.put, List.setIfInBounds_toArray, List.set_cons_zero, List.set_cons_succ]
          refine wpAnyZ_take (i := 2) (oi := { dst := some 49, op := Op.move (Operand.tmp 10), type := 3, pos := "lists.go:75", after := #[], guard := none }) (v := .int .i64 (q : Nat)) rfl (by kernel_rfl) (by kernel_rfl) (by kernel_rfl) (by kernel_rfl) (fun _ _ _ h => h) (Or.inl ⟨by rfl, ?_⟩) (SK.out _ tV) ?_
          · rintro w s0
            go_simp
          simp only [Act.put, List.setIfInBounds_toArray, List.set_cons_zero, List.set_cons_succ]
          refine wpAnyZ_take (i := 3) (oi := { dst := some 50, op := Op.move (Operand.tmp 11), type := 53, pos := "lists.go:75", after := #[], guard := none }) (v := .slice xa XL xc) rfl (by kernel_rfl) (by kernel_rfl) (by kernel_rfl) (by kernel_rfl) (fun _ _ _ h => h) (Or.inl ⟨by rfl, ?_⟩) (SK.out _ tV) ?_
          · rintro w s0
            go_simp
          simp only [Act.put, List.setIfInBounds_toArray, List.set_cons_zero, List.set_cons_succ]
          refine wpAnyZ_take (i := 4) (oi := { dst := some 51, op := Op.makeFunc (Fn.func 50) #[] #[Operand.tmp 5], type := 93, pos := "lists.go:75", after := #[], guard := none }) (v := .func (.func 50) #[] #[.pointer (some ⟨V, 0, none⟩)]) rfl (by kernel_rfl) (by kernel_rfl) (by kernel_rfl) (by kernel_rfl) (fun _ _ _ h => h) (Or.inl ⟨by rfl, ?_⟩) (SK.out _ tV) ?_
          · rintro w s0
            go_simp
          simp only [Act.put, List.setIfInBounds_toArray, List.set_cons_zero, List.set_cons_succ]
          refine wpAnyZ_ready (rs := [5]) (by kernel_rfl) (by simp) ?_
          refine AllReadyZ.cons rfl (fun K hK => ?_) AllReadyZ.nil
          go_simp
          refine (CF.out _ tF).mono ?_
          rintro oo Vn ⟨n2, rfl, hn2, hrow, tq⟩
          have tN := (show Turns (fun j => xa = some ⟨j, 0, none⟩) _ _ from tq)
          have tV := tV.trans tN
          have HN2 := hide hn2
          have HROW := hide hrow
          clear hrow tq hn2
          clear tN
          go_simp
          refine hK.out _ _ (SK.out _ tV) (fun _ => ?_)
          clear hK K
          refine wpAnyZ_take (i := 6) (oi := { dst := some 53, op := Op.indexAddr 24 (Operand.tmp 48) (Operand.tmp 49), type := 0, pos := "lists.go:75", after := #[{ on := 1, ground := Ground.data }, { on := 2, ground := Ground.data }, { on := 0, ground := Ground.phase }, { on := 1, ground := Ground.phase }, { on := 2, ground := Ground.phase }, { on := 3, ground := Ground.phase }, { on := 4, ground := Ground.phase }, { on := 5, ground := Ground.phase }], guard := none }) (v := .pointer (some ⟨G, q, none⟩)) rfl (by kernel_rfl) (by kernel_rfl) (by kernel_rfl) (by kernel_rfl) (fun _ _ _ h => h) (Or.inl ⟨by rfl, ?_⟩) (SK.out _ tV) ?_
          · rintro w s0
            go_simp
          simp only [Act.put, List.setIfInBounds_toArray, List.set_cons_zero, List.set_cons_succ]
          obtain ⟨cs1, hg1, hcs1, _⟩ := HD.out.head
          have hg2 := tV.heap hg1 (fun e => (HD.out.rows q _ HX.out).ne hg1 (by decide) G e rfl)
          obtain ⟨dv, d0⟩ : ∃ dv, Vn.cell? ⟨G, q, none⟩ = some dv := ⟨_, by rw [cell_of_row _ G q _ 53 (0, 0) hg2]; exact Array.getElem?_eq_getElem (by omega)⟩
          have z0 := frozen_of_row Vn G q _ 53 hg2
          have TV := hide tV
          have TT := hide (Turns.of_tick ((Tick.refl hg2).set q (.slice xa n2 xc)))
          clear hg1 hg2 hcs1 tV
          refine wpAnyZ_ready (rs := [7]) (by kernel_rfl) (by simp) ?_
          refine AllReadyZ.free rfl (by kernel_rfl) (fun K hK => ?_) AllReadyZ.nil
          go_simp
          refine hK.out _ _ ?_
          clear hK K
          refine wpAnyZ_done (by kernel_rfl) ?_ _
          clear d0 z0
          have REL := hide (show ∃ L3 : List Lv, L3.length = 5 ∧ DR (Vn.setCell ⟨G, q, none⟩ (.slice xa n2 xc)) w0.heap.size G 5 L3 ∧ flL L3 = ((flL L).take (q + 1)).map (List.filter (keepF m)) ++ (flL L).drop (q + 1) ∧ L3.map (·.a) = L.map (·.a) ∧ MapN (Vn.setCell ⟨G, q, none⟩ (.slice xa n2 xc)) M (cnt L) m s ∧ (Vn.setCell ⟨G, q, none⟩ (.slice xa n2 xc)).heap[V]? = some (.cells #[.map (some M)] 99 (0, 0)) ∧ (Vn.setCell ⟨G, q, none⟩ (.slice xa n2 xc)).heap[P]? = some (.cells #[.slice (some ⟨G, 0, none⟩) 5 c] 58 (0, 0)) ∧ Turns (own G L) w (Vn.setCell ⟨G, q, none⟩ (.slice xa n2 xc)) from by
            have hG2 := HD.out.head
            obtain ⟨csG, hG1, _⟩ := hG2
            have hGV : ¬ V = G := fun e => by have h1 := HV2.out; rw [e, hG1] at h1; cases h1
            have hGP : ¬ P = G := fun e => by have h1 := HP2.out; rw [e, hG1] at h1; cases h1
            have hGM : ¬ M = G := fun e => HD.out.not_map HM5.out (.inl e)
            have hml : L2[q]? = some ⟨xa, xc, xl⟩ := HX.out
            have hql := (List.getElem?_eq_some_iff.1 hml).1
            refine ⟨L2.set q ⟨xa, xc, xl.filter (keepT m)⟩, by rw [List.length_set]; exact HL2.out, ?_, ?_, ?_, (HM5.out.keep TV.out NM.out).keep TT.out hGM, TT.out.heap (TV.out.heap HV2.out fun e => NV.out _ e rfl) hGV, TT.out.heap (TV.out.heap HP2.out fun e => NP.out _ e rfl) hGP, (HT2.out.trans (TV.out.mono fun j _ e => ?_)).trans (TT.out.mono fun j _ e => .inl e)⟩
            · have h1 := HD.out.redo HX.out hqn TV.out HROW.out (fun g e => .inl e) (fun y hy => (HD.out.files _ (List.mem_of_getElem? HX.out) y (List.mem_filter.1 hy).1).keep TV.out fun j e _ cs' z' e2 => (HD.out.rows q _ HX.out).ne e2 (by decide) j e rfl)
              rw [← HN2.out] at h1
              exact h1
            · have h2 := HF2.out
              unfold flL at *
              rw [List.map_set, h2, fls_filter, HXF.out, List.take_add_one, List.getElem?_map, HX0.out]
              simp only [Option.map_some, Option.toList_some, List.map_append, List.map_cons, List.map_nil, List.append_assoc]
              rw [List.set_append_right _ _ (by simp [HL.out]; omega)]
              congr 1
              have hq0 : q < (L.map fun x => fls x.l).length := by simp [HL.out]; omega
              have hlen : (((L.map fun x => fls x.l).take q).map (List.filter (keepF m))).length = q := by simp [HL.out]; omega
              rw [hlen, Nat.sub_self, List.drop_eq_getElem_cons hq0]
              simp
            · have h3 := HA2.out
              rw [List.map_set, h3]
              simp only
              apply List.ext_getElem?
              intro j
              by_cases hj : j = q
              · subst hj
                rw [List.getElem?_set_self (by simp [HL.out]; omega), ← h3, List.getElem?_map, hml]
                rfl
              · rw [List.getElem?_set_ne (by omega)]
            · refine .inr ⟨q, x0, HX0.out, ?_⟩
              have h3 := congrArg (fun l => l[q]?) HA2.out
              simp only [List.getElem?_map, HX0.out, hml, Option.map_some] at h3
              rw [← Option.some.inj h3]; exact e)
          clear TV HROW TT HN2
          go_wp2_with fail
          obtain ⟨L3, r1, r2, r3, r4, r5, r6, r7, r8⟩ := REL.out
          go_roundw
          case rel => exact ⟨q + 1, L3, by go_num, by omega, r1, r2, r3, r4, r5, r6, r7, r8⟩
          case measure => simp [intOf]; omega
        · obtain rfl : q = 5 := by omega
          have hfl : flL L2 = (flL L).map (List.filter (keepF m)) := by
            rw [HF2.out, List.take_of_length_le (by rw [flL_length]; have := HL.out; omega), List.drop_eq_nil_of_le (by rw [flL_length]; have := HL.out; omega), List.append_nil]
          have HFL := hide hfl
          clear hfl
          go_wp2_with fail
          go_ret
          exact ⟨HT2.out, .inr ⟨m, HSM.out, rfl, L2, HL2.out, HD.out, HFL.out, HA2.out⟩⟩
end Go.Proofs.YtmmcikbedegigaaGreat
