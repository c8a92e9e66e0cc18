import Derived.Test.YtpgligfolecieaaM24
import Derived.Test.YtpgligfolecieaaM04
import Derived.Test.YtpgligfolecieaaM13
import Derived.Test.YtpgligfolecieaaM17
/-
  own: a row's entries get bytes of their own.
-/
namespace Go.Proofs.Ytpgligfolecieaa
open Go.RowKit
set_option maxRecDepth 100000
set_option maxHeartbeats 4000000
/-- How far own has come. -/
structure Own1 (w ws : World) (g c n : Nat) (R : List Tow) (i : Nat) (Q : List Tow) : Prop where
  len : Q.length = n
  same : Q.map (·.e) = R.map (·.e)
  post : Q.drop i = R.drop i
  row : RowC ws g 29 (c * 4) (entCells Q)
  new : ∀ x, x ∈ Q.take i → Bytes ws x.kv x.e.key ∧ Bytes ws x.vv x.e.val ∧ ∀ q, x.bytesIn q → (w.heap.size ≤ q ∧ q < ws.heap.size) ∧ ∃ cs, ws.heap[q]? = some (.cells cs 5 (0, 0))
  turn : Turns (fun k => k = g) w ws
theorem row_two {u : World} {g c i : Nat} {ys r : List Tow} {y : Tow} (h : RowC u g 29 (c * 4) (entCells (ys ++ y :: r))) (hj : ys.length = i) (ka va : Option Addr) (kc vc : Nat) : RowC ((u.setCell ⟨g, i * 4, none⟩ (.slice ka y.e.key.length kc)).setCell ⟨g, i * 4 + 3, none⟩ (.slice va y.e.val.length vc)) g 29 (c * 4) (entCells (ys ++ (⟨ka, kc, va, vc, y.e⟩ : Tow) :: r)) := by
  obtain ⟨cs, h1, h2, h3⟩ := h
  refine ⟨(cs.setIfInBounds (i * 4) (.slice ka y.e.key.length kc)).setIfInBounds (i * 4 + 3) (.slice va y.e.val.length vc), heap_setCell_row _ _ _ _ _ _ (heap_setCell_row _ _ _ _ _ _ h1), by simpa using h2, fun k hk => ?_⟩
  rw [entCells_length] at hk
  have h4 := h3 k (by rw [entCells_length]; simpa using hk)
  have hks : k < cs.size := by
    rcases Nat.lt_or_ge k cs.size with h | h
    · exact h
    · rw [Array.getElem?_eq_none h] at h4
      have := List.getElem?_eq_none_iff.1 h4.symm
      rw [entCells_length] at this
      simp at this hk
      omega
  rw [entCells_mid, hj] at h4 ⊢
  by_cases e3 : i * 4 + 3 = k
  · subst e3
    rw [Array.getElem?_setIfInBounds_self_of_lt (by simpa using hks), if_pos (by omega), show i * 4 + 3 - i * 4 = 3 by omega]
    rfl
  · rw [Array.getElem?_setIfInBounds_ne e3]
    by_cases e0 : i * 4 = k
    · subst e0
      rw [Array.getElem?_setIfInBounds_self_of_lt hks, if_pos (by omega), show i * 4 - i * 4 = 0 by omega]
      rfl
    · rw [Array.getElem?_setIfInBounds_ne e0, h4]
      split
      · next hh =>
        obtain ⟨m, hm⟩ : ∃ m, k - i * 4 = m := ⟨_, rfl⟩
        rw [hm]
        rcases (by omega : m = 1 ∨ m = 2) with rfl | rfl
        · rfl
        · rfl
      · rfl
theorem own_row (g n c : Nat) (R : List Tow) (w : World) (h : RowC w g 29 (c * 4) (entCells R)) (hb : ∀ u, Turns (fun k => k = g) w u → ∀ x, x ∈ R → Bytes u x.kv x.e.key ∧ Bytes u x.vv x.e.val) (hc : n ≤ c) (hn : n = R.length) (hmx : n ≤ 1000000) (hl : ∀ x, x ∈ R → x.e.key.length ≤ 1000000 ∧ x.e.val.length ≤ 1000000) :
    Calls Try.prog 30 #[.slice (some ⟨g, 0, none⟩) n c] w fun e w' => e = .returned (.slice (some ⟨g, 0, none⟩) n c) ∧ ∃ Q, Own1 w w' g c n R n Q := by
  have H := hide h
  have HN := hide hn
  have HB := hide hb
  have HLN := hide hl
  have O0 := hide (show Own1 w w g c n R 0 R from ⟨hn.symm, rfl, rfl, h, fun x hx => by simp at hx, Turns.refl _ _⟩)
  clear h hn hb hl
  go_enter Try.func30, Try.ntmps30
  go_wp2_with fail
  go_loopw [7] (fun iv wr => ∃ (i : Nat) (Q : List Tow), iv = .int .i64 (i : Nat) ∧ i ≤ n ∧ Own1 w wr g c n R i Q) (fun iv _ => n - (intOf iv).toNat)
  case atStart => exact ⟨0, R, rfl, Nat.zero_le _, O0.out⟩
  case round =>
    obtain ⟨i, Q, rfl, hi, ho⟩ := hrel
    have HO := hide ho
    clear ho O0
    by_cases hin : i < n
    · obtain ⟨y, hy⟩ : ∃ y, Q[i]? = some y := ⟨_, List.getElem?_eq_getElem (by have := HO.out.len; omega)⟩
      have hyR : R[i]? = some y := by
        have e := HO.out.post
        have h1 : (Q.drop i)[0]? = some y := by rw [List.getElem?_drop]; exact hy
        rw [e, List.getElem?_drop] at h1
        exact h1
      obtain ⟨y0, y1, y2, y3⟩ := row_e4 HO.out.row hy
      have hbY := HB.out wr HO.out.turn y (List.mem_of_getElem? hyR)
      have hlY := HLN.out y (List.mem_of_getElem? hyR)
      have j1 : (i : Int) < n := by omega
      have j0 : (0 : Int) ≤ i := by omega
      have HY := hide hy
      have CL1 := hide (fun (u : World) (t : Turns (fun _ => False) wr u) => cloneT_any y.ka y.e.key.length y.kc y.e.key u (hbY.1.quiet t) hlY.1)
      have CL2 := hide (fun (u : World) (t : Turns (fun _ => False) wr u) => cloneT_any y.va y.e.val.length y.vc y.e.val u (hbY.2.quiet t) hlY.2)
      have HCELL := hide (show ∀ u, Turns (fun _ => False) wr u → ∃ cs, u.heap[g]? = some (.cells cs 29 (0, 0)) ∧ i * 4 + 4 ≤ cs.size from fun u t => by
        obtain ⟨cs, h1, h2, h3⟩ := HO.out.row
        exact ⟨cs, t.heap h1 (fun x => x), by omega⟩)
      have HP := hide (show ∀ (u : World) (ka' va' : Option Addr) (kc' vc' : Nat), Turns (fun _ => False) wr u → Bytes u (.slice ka' y.e.key.length kc') y.e.key → Bytes u (.slice va' y.e.val.length vc') y.e.val → (∀ x, ka' = some x → (wr.heap.size ≤ x.block ∧ x.block < u.heap.size) ∧ ∃ cs, u.heap[x.block]? = some (.cells cs 5 (0, 0))) → (∀ x, va' = some x → (wr.heap.size ≤ x.block ∧ x.block < u.heap.size) ∧ ∃ cs, u.heap[x.block]? = some (.cells cs 5 (0, 0))) → ∃ Q', Own1 w ((u.setCell ⟨g, i * 4, none⟩ (.slice ka' y.e.key.length kc')).setCell ⟨g, i * 4 + 3, none⟩ (.slice va' y.e.val.length vc')) g c n R (i + 1) Q' from fun u ka' va' kc' vc' t b1 b2 k1 k2 => by
        have hlq := HO.out.len
        have htl : (Q.take i).length = i := by rw [List.length_take]; omega
        have hsp := set_split hy
        have hrw := HO.out.row.turns t (fun x => x)
        rw [hsp] at hrw
        have tt : Turns (fun k => k = g) u ((u.setCell ⟨g, i * 4, none⟩ (.slice ka' y.e.key.length kc')).setCell ⟨g, i * 4 + 3, none⟩ (.slice va' y.e.val.length vc')) := by
          obtain ⟨cs, hg, _⟩ := hrw
          exact (Turns.of_tick ((Tick.refl hg).set (i * 4) _)).trans (Turns.of_tick ((Tick.refl (heap_setCell_row u g (i * 4) cs 29 (.slice ka' y.e.key.length kc') hg)).set (i * 4 + 3) _))
        have h5 : ∀ k cs, u.heap[k]? = some (.cells cs 5 (0, 0)) → k ≠ g := fun k cs h e => by
          obtain ⟨cs2, h1, _⟩ := hrw
          rw [e, h1] at h
          cases h
        have hk5 : ∀ {p : Option Addr} {m d : Nat} {bs : List (BitVec 8)}, Bytes u (.slice p m d) bs → (∀ x, p = some x → ∃ cs, u.heap[x.block]? = some (.cells cs 5 (0, 0))) → Bytes ((u.setCell ⟨g, i * 4, none⟩ (.slice ka' y.e.key.length kc')).setCell ⟨g, i * 4 + 3, none⟩ (.slice va' y.e.val.length vc')) (.slice p m d) bs := fun h hh => h.turns tt fun a n c e => by
          cases e
          obtain ⟨cs, hc⟩ := hh a rfl
          exact h5 _ cs hc
        have hsz := tt.size
        have hwr := HO.out.turn.size
        refine ⟨Q.take i ++ (⟨ka', kc', va', vc', y.e⟩ : Tow) :: Q.drop (i + 1), ⟨by simp; omega, ?_, ?_, row_two hrw htl ka' va' kc' vc', fun x hx => ?_, (HO.out.turn.trans (t.mono fun _ _ x => x.elim)).trans tt⟩⟩
        · rw [← HO.out.same]
          conv => rhs; rw [hsp]
          simp
        · have e1 : (Q.take i ++ (⟨ka', kc', va', vc', y.e⟩ : Tow) :: Q.drop (i + 1)).drop (i + 1) = Q.drop (i + 1) := by
            rw [List.drop_append, htl, List.drop_eq_nil_of_le (by omega), List.nil_append, show i + 1 - i = 0 + 1 by omega, List.drop_succ_cons, List.drop_zero]
          rw [e1, ← List.drop_drop, HO.out.post, List.drop_drop]
        · have e2 : (Q.take i ++ (⟨ka', kc', va', vc', y.e⟩ : Tow) :: Q.drop (i + 1)).take (i + 1) = Q.take i ++ [(⟨ka', kc', va', vc', y.e⟩ : Tow)] := by
            rw [List.take_append, htl, List.take_of_length_le (by omega), show i + 1 - i = 1 by omega]
            rfl
          rw [e2] at hx
          rcases List.mem_append.1 hx with hx | hx
          · obtain ⟨n1, n2, n3⟩ := HO.out.new x hx
            have hq : ∀ q, x.bytesIn q → ∃ cs, u.heap[q]? = some (.cells cs 5 (0, 0)) := fun q hq => by
              obtain ⟨_, cs, hc⟩ := n3 q hq
              exact ⟨cs, t.heap hc (fun x => x)⟩
            refine ⟨hk5 (n1.quiet t) fun a e => hq _ (.inl ⟨a, e, rfl⟩), hk5 (n2.quiet t) fun a e => hq _ (.inr ⟨a, e, rfl⟩), fun q hb => ⟨⟨(n3 q hb).1.1, ?_⟩, ?_⟩⟩
            · have := (n3 q hb).1.2; have := t.size; omega
            · obtain ⟨cs, hc⟩ := hq q hb
              exact ⟨cs, tt.heap hc (h5 q cs hc)⟩
          · obtain rfl := List.mem_singleton.1 hx
            refine ⟨hk5 b1 fun a e => (k1 a e).2, hk5 b2 fun a e => (k2 a e).2, fun q hb => ?_⟩
            rcases hb with ⟨a, e, rfl⟩ | ⟨a, e, rfl⟩
            · obtain ⟨⟨q1, q2⟩, cs, hc⟩ := k1 a e
              exact ⟨⟨by omega, by omega⟩, cs, tt.heap hc (h5 _ cs hc)⟩
            · obtain ⟨⟨q1, q2⟩, cs, hc⟩ := k2 a e
              exact ⟨⟨by omega, by omega⟩, cs, tt.heap hc (h5 _ cs hc)⟩)
      obtain ⟨ka, kc, va, vc, ⟨key, sq, kd, val⟩⟩ := y
      unfold Tow.kv Tow.vv at *
      simp only at *
      generalize hL1 : key.length = L1 at *
      generalize hL2 : val.length = L2 at *
      have i8 : L1 ≤ 1000000 := hlY.1
      have i9 : L2 ≤ 1000000 := hlY.2
      have TF := hide ((Turns.refl (fun _ => False) wr).alloc (.cells #[.slice ka L1 kc, .int .u64 (sq : Nat), .int .i64 kd, .slice va L2 vc] 29))
      have RF := hide (heap_alloc_new wr (.cells #[.slice ka L1 kc, .int .u64 (sq : Nat), .int .i64 kd, .slice va L2 vc] 29))
      clear hy hyR hbY hlY hL1 hL2
      go_upto_region 4 with (fail)
      generalize hwb : wr.alloc (.cells #[.slice ka L1 kc, .int .u64 (sq : Nat), .int .i64 kd, .slice va L2 vc] 29) = wb at *
      have HGX := hide (show ¬ wr.heap.size = g from fun e => by obtain ⟨cs, h1, _⟩ := HO.out.row; have := lt_of_heap h1; omega)
      have HSZ := hide (show wr.heap.size ≤ wb.heap.size from TF.out.size)
      generalize hGX : wr.heap.size = GX at *
      clear hGX
      have tV : Turns (fun _ => False) wb wb.drew := (Turns.refl _ _).drew
      have SKG := hide (fun (u : World) (t : Turns (fun k => k = g) wb u) => show u.cell? ⟨GX, 0, none⟩ = some (.slice ka L1 kc) ∧ u.cell? ⟨GX, 3, none⟩ = some (.slice va L2 vc) from ⟨cell_of_row u GX 0 _ 29 (0, 0) (t.heap RF.out HGX.out), cell_of_row u GX 3 _ 29 (0, 0) (t.heap RF.out HGX.out)⟩)
      have SK := hide (fun (u : World) (t : Turns (fun _ => False) wb u) => SKG.out u (t.mono fun _ _ x => x.elim))
      refine wp_region_held_drew (S := fun u => u.cell? ⟨GX, 0, none⟩ = some (.slice ka L1 kc) ∧ u.cell? ⟨GX, 3, none⟩ = some (.slice va L2 vc)) (by kernel_rfl) (SK.out _ tV) (fun _ => ?_)
      change wpAnyH _ _ _ _ _ 16 (Array.replicate 16 false) _ _
      refine wpAnyH_take (i := 0) (oi := { dst := some 12, op := Op.move (Operand.tmp 0), type := 31, pos := "compact.go:85", after := #[], guard := none }) (v := .slice (some ⟨g, 0, none⟩) n c) rfl (by kernel_rfl) (by kernel_rfl) (by kernel_rfl) (fun _ _ _ h => h) (Or.inl ⟨by rfl, ?_⟩) (SK.out _ tV) ?_
      · rintro w ⟨s0, s1⟩
        go_simp
      simp only [Act.put, List.setIfInBounds_toArray, List.set_cons_zero, List.set_cons_succ]
      refine wpAnyH_take (i := 1) (oi := { dst := some 13, op := Op.move (Operand.tmp 3), type := 3, pos := "compact.go:85", after := #[], guard := none }) (v := .int .i64 (i : Nat)) rfl (by kernel_rfl) (by kernel_rfl) (by kernel_rfl) (fun _ _ _ h => h) (Or.inl ⟨by rfl, ?_⟩) (SK.out _ tV) ?_
      · rintro w ⟨s0, s1⟩
        go_simp
      simp only [Act.put, List.setIfInBounds_toArray, List.set_cons_zero, List.set_cons_succ]
      refine wpAnyH_take (i := 2) (oi := { dst := some 14, op := Op.move (Operand.tmp 0), type := 31, pos := "compact.go:85", after := #[{ on := 12, ground := Ground.gcOnly Departure.lateStores }], guard := none }) (v := .slice (some ⟨g, 0, none⟩) n c) rfl (by kernel_rfl) (by kernel_rfl) (by kernel_rfl) (fun _ _ _ h => h) (Or.inl ⟨by rfl, ?_⟩) (SK.out _ tV) ?_
      · rintro w ⟨s0, s1⟩
        go_simp
      simp only [Act.put, List.setIfInBounds_toArray, List.set_cons_zero, List.set_cons_succ]
      refine wpAnyH_take (i := 3) (oi := { dst := some 15, op := Op.move (Operand.tmp 3), type := 3, pos := "compact.go:85", after := #[{ on := 12, ground := Ground.gcOnly Departure.lateStores }], guard := none }) (v := .int .i64 (i : Nat)) rfl (by kernel_rfl) (by kernel_rfl) (by kernel_rfl) (fun _ _ _ h => h) (Or.inl ⟨by rfl, ?_⟩) (SK.out _ tV) ?_
      · rintro w ⟨s0, s1⟩
        go_simp
      simp only [Act.put, List.setIfInBounds_toArray, List.set_cons_zero, List.set_cons_succ]
      refine wpAnyH_take (i := 4) (oi := { dst := some 16, op := Op.fieldAddr 29 (Operand.tmp 4) 0, type := 0, pos := "compact.go:85", after := #[], guard := none }) (v := .pointer (some ⟨GX, 0, none⟩)) rfl (by kernel_rfl) (by kernel_rfl) (by kernel_rfl) (fun _ _ _ h => h) (Or.inl ⟨by rfl, ?_⟩) (SK.out _ tV) ?_
      · rintro w ⟨s0, s1⟩
        go_simp
      simp only [Act.put, List.setIfInBounds_toArray, List.set_cons_zero, List.set_cons_succ]
      refine wpAnyH_take (i := 5) (oi := { dst := some 17, op := Op.load 26 (Operand.tmp 16), type := 26, pos := "compact.go:85", after := #[{ on := 4, ground := Ground.data }], guard := none }) (v := .slice ka L1 kc) rfl (by kernel_rfl) (by kernel_rfl) (by kernel_rfl) (fun _ _ _ h => h) (Or.inl ⟨by rfl, ?_⟩) (SK.out _ tV) ?_
      · rintro w ⟨s0, s1⟩
        go_simp
      simp only [Act.put, List.setIfInBounds_toArray, List.set_cons_zero, List.set_cons_succ]
      refine wpAnyH_take (i := 7) (oi := { dst := some 19, op := Op.fieldAddr 29 (Operand.tmp 4) 3, type := 0, pos := "compact.go:85", after := #[], guard := none }) (v := .pointer (some ⟨GX, 3, none⟩)) rfl (by kernel_rfl) (by kernel_rfl) (by kernel_rfl) (fun _ _ _ h => h) (Or.inl ⟨by rfl, ?_⟩) (SK.out _ tV) ?_
      · rintro w ⟨s0, s1⟩
        go_simp
      simp only [Act.put, List.setIfInBounds_toArray, List.set_cons_zero, List.set_cons_succ]
      refine wpAnyH_take (i := 8) (oi := { dst := some 20, op := Op.load 26 (Operand.tmp 19), type := 26, pos := "compact.go:85", after := #[{ on := 7, ground := Ground.data }], guard := none }) (v := .slice va L2 vc) rfl (by kernel_rfl) (by kernel_rfl) (by kernel_rfl) (fun _ _ _ h => h) (Or.inl ⟨by rfl, ?_⟩) (SK.out _ tV) ?_
      · rintro w ⟨s0, s1⟩
        go_simp
      simp only [Act.put, List.setIfInBounds_toArray, List.set_cons_zero, List.set_cons_succ]
      refine wpAnyH_ready (rs := [6]) (by kernel_rfl) (by simp) ?_
      refine AllReadyH.cons rfl (fun K hK => ?_) AllReadyH.nil
      go_simp
      refine (CL1.out _ (TF.out.trans tV)).mono ?_
      rintro oo Vn ⟨ka2, kc2, rfl, hb1, hk1, tC⟩
      have tN := Turns.of_below tC (fun _ => False)
      have tV := tV.trans tN
      have B1 := hide hb1
      have K1 := hide hk1
      have S1 := hide tV.size
      have TN1 := hide tV
      clear tC hb1 hk1
      clear tN
      go_simp
      refine hK.out _ _ (SK.out _ tV) (fun _ => ?_)
      clear hK K
      rename_i VA0
      refine wpAnyH_ready (rs := [9]) (by kernel_rfl) (by simp) ?_
      refine AllReadyH.cons rfl (fun K hK => ?_) AllReadyH.nil
      go_simp
      refine (CL2.out _ (TF.out.trans tV)).mono ?_
      rintro oo Vn ⟨va2, vc2, rfl, hb2, hk2, tC⟩
      have tN := Turns.of_below tC (fun _ => False)
      have tV := tV.trans tN
      have FIN := HP.out _ ka2 va2 kc2 vc2 (TF.out.trans tV) (B1.out.quiet tN) hb2 (fun x e => ⟨⟨Nat.le_trans HSZ.out (Nat.le_trans (Turns.refl (fun _ => False) wb).drew.size (K1.out x e).1.1), Nat.lt_of_lt_of_le (K1.out x e).1.2 tN.size⟩, (K1.out x e).2.choose, tN.heap (K1.out x e).2.choose_spec (fun x => x)⟩) (fun x e => ⟨⟨Nat.le_trans HSZ.out (Nat.le_trans TN1.out.size (hk2 x e).1.1), (hk2 x e).1.2⟩, (hk2 x e).2⟩)
      obtain ⟨cs, hg, hsz⟩ := HCELL.out _ (TF.out.trans tV)
      clear tC hb2 hk2
      clear tN
      go_simp
      refine hK.out _ _ (SK.out _ tV) (fun _ => ?_)
      clear hK K
      have FINH := hide FIN
      clear FIN
      have e0 := frozen_of_row Vn g (i * 4) _ 29 hg
      obtain ⟨q0, f0⟩ : ∃ d, Vn.cell? ⟨g, i * 4, none⟩ = some d := ⟨_, by rw [cell_of_row Vn g (i * 4) _ 29 (0, 0) hg]; exact Array.getElem?_eq_getElem (by omega)⟩
      have hg2 := heap_setCell_row Vn g (i * 4) cs 29 (.slice ka2 L1 kc2) hg
      have e3 := frozen_of_row _ g (i * 4 + 3) _ 29 hg2
      obtain ⟨q3, f3⟩ : ∃ d, (Vn.setCell ⟨g, i * 4, none⟩ (.slice ka2 L1 kc2)).cell? ⟨g, i * 4 + 3, none⟩ = some d := ⟨_, by rw [cell_of_row _ g (i * 4 + 3) _ 29 (0, 0) hg2]; exact Array.getElem?_eq_getElem (by simp; omega)⟩
      have t1 := (tV.mono (S' := fun k => k = g) fun _ _ (x : False) => x.elim).trans (Turns.of_tick ((Tick.refl hg).set (i * 4) (.slice ka2 L1 kc2)))
      have t2 := t1.trans (Turns.of_tick ((Tick.refl hg2).set (i * 4 + 3) (.slice va2 L2 vc2)))
      have SG1 := SKG.out _ t1
      have SG2 := SKG.out _ t2
      clear hg hg2 t1 t2
      refine wpAnyH_take (i := 10) (oi := { dst := some 22, op := Op.indexAddr 31 (Operand.tmp 12) (Operand.tmp 13), type := 0, pos := "compact.go:85", after := #[{ on := 0, ground := Ground.data }, { on := 1, ground := Ground.data }, { on := 0, ground := Ground.phase }, { on := 1, ground := Ground.phase }, { on := 2, ground := Ground.textOnly Departure.lateStores }, { on := 3, ground := Ground.textOnly Departure.lateStores }, { on := 4, ground := Ground.phase }, { on := 5, ground := Ground.phase }, { on := 6, ground := Ground.phase }, { on := 7, ground := Ground.textOnly Departure.lateStores }, { on := 8, ground := Ground.textOnly Departure.lateStores }, { on := 9, ground := Ground.phase }], guard := none }) (v := .pointer (some ⟨g, i * 4, none⟩)) rfl (by kernel_rfl) (by kernel_rfl) (by kernel_rfl) (fun _ _ _ h => h) (Or.inl ⟨by rfl, ?_⟩) (SK.out _ tV) ?_
      · rintro w ⟨s0, s1⟩
        go_simp
      simp only [Act.put, List.setIfInBounds_toArray, List.set_cons_zero, List.set_cons_succ]
      refine wpAnyH_take (i := 11) (oi := { dst := some 23, op := Op.fieldAddr 29 (Operand.tmp 22) 0, type := 0, pos := "compact.go:85", after := #[{ on := 10, ground := Ground.data }, { on := 0, ground := Ground.phase }, { on := 1, ground := Ground.phase }, { on := 2, ground := Ground.textOnly Departure.lateStores }, { on := 3, ground := Ground.textOnly Departure.lateStores }, { on := 4, ground := Ground.phase }, { on := 5, ground := Ground.phase }, { on := 6, ground := Ground.phase }, { on := 7, ground := Ground.textOnly Departure.lateStores }, { on := 8, ground := Ground.textOnly Departure.lateStores }, { on := 9, ground := Ground.phase }], guard := none }) (v := .pointer (some ⟨g, i * 4, none⟩)) rfl (by kernel_rfl) (by kernel_rfl) (by kernel_rfl) (fun _ _ _ h => h) (Or.inl ⟨by rfl, ?_⟩) (SK.out _ tV) ?_
      · rintro w ⟨s0, s1⟩
        go_simp
      simp only [Act.put, List.setIfInBounds_toArray, List.set_cons_zero, List.set_cons_succ]
      refine wpAnyH_ready (rs := [12]) (by kernel_rfl) (by simp) ?_
      refine AllReadyH.cons rfl (fun K hK => ?_) AllReadyH.nil
      go_simp
      refine hK.out _ _ SG1 (fun _ => ?_)
      clear hK K
      refine wpAnyH_take (i := 13) (oi := { dst := some 24, op := Op.indexAddr 31 (Operand.tmp 14) (Operand.tmp 15), type := 0, pos := "compact.go:85", after := #[{ on := 2, ground := Ground.data }, { on := 3, ground := Ground.data }, { on := 0, ground := Ground.phase }, { on := 1, ground := Ground.phase }, { on := 2, ground := Ground.phase }, { on := 3, ground := Ground.phase }, { on := 4, ground := Ground.phase }, { on := 5, ground := Ground.phase }, { on := 6, ground := Ground.phase }, { on := 7, ground := Ground.phase }, { on := 8, ground := Ground.phase }, { on := 9, ground := Ground.phase }, { on := 10, ground := Ground.phase }, { on := 11, ground := Ground.phase }, { on := 12, ground := Ground.phase }], guard := none }) (v := .pointer (some ⟨g, i * 4, none⟩)) rfl (by kernel_rfl) (by kernel_rfl) (by kernel_rfl) (fun _ _ _ h => h) (Or.inl ⟨by rfl, ?_⟩) SG1 ?_
      · rintro w ⟨s0, s1⟩
        go_simp
      simp only [Act.put, List.setIfInBounds_toArray, List.set_cons_zero, List.set_cons_succ]
      refine wpAnyH_take (i := 14) (oi := { dst := some 25, op := Op.fieldAddr 29 (Operand.tmp 24) 3, type := 0, pos := "compact.go:85", after := #[{ on := 13, ground := Ground.data }, { on := 0, ground := Ground.phase }, { on := 1, ground := Ground.phase }, { on := 2, ground := Ground.phase }, { on := 3, ground := Ground.phase }, { on := 4, ground := Ground.phase }, { on := 5, ground := Ground.phase }, { on := 6, ground := Ground.phase }, { on := 7, ground := Ground.phase }, { on := 8, ground := Ground.phase }, { on := 9, ground := Ground.phase }, { on := 10, ground := Ground.phase }, { on := 11, ground := Ground.phase }, { on := 12, ground := Ground.phase }], guard := none }) (v := .pointer (some ⟨g, i * 4 + 3, none⟩)) rfl (by kernel_rfl) (by kernel_rfl) (by kernel_rfl) (fun _ _ _ h => h) (Or.inl ⟨by rfl, ?_⟩) SG1 ?_
      · rintro w ⟨s0, s1⟩
        go_simp
      simp only [Act.put, List.setIfInBounds_toArray, List.set_cons_zero, List.set_cons_succ]
      refine wpAnyH_ready (rs := [15]) (by kernel_rfl) (by simp) ?_
      refine AllReadyH.cons rfl (fun K hK => ?_) AllReadyH.nil
      go_simp
      refine hK.out _ _ SG2 (fun _ => ?_)
      clear hK K
      refine wpAnyH_done (by kernel_rfl) ?_ _
      go_wp2_with fail
      obtain ⟨Q2, hQ2⟩ := FINH.out
      go_roundw
      case rel => exact ⟨i + 1, Q2, by go_num, by omega, hQ2⟩
      case measure => (simp [intOf]; try omega)
    · obtain rfl : i = n := by omega
      go_wp2_with fail
      go_ret
      exact ⟨rfl, Q, HO.out⟩
end Go.Proofs.Ytpgligfolecieaa

/-
  own for any row; how a row is cut, as plain mathematics.
-/
namespace Go.Proofs.Ytpgligfolecieaa
open Go.RowKit
set_option maxRecDepth 100000
set_option maxHeartbeats 4000000
theorem own_nil (w : World) : Calls Try.prog 30 #[.slice none 0 0] w fun e w' => e = .returned (.slice none 0 0) ∧ Turns (fun _ => False) w w' := by
  go_enter Try.func30, Try.ntmps30
  go_wp2_with fail
  go_loopw [7] (fun i wr => i = .int .i64 0 ∧ Turns (fun _ => False) w wr) (fun _ _ => 0)
  case atStart => exact ⟨rfl, Turns.refl _ _⟩
  case round =>
    obtain ⟨rfl, hb⟩ := hrel
    have HB := hide hb
    clear hb
    go_wp2_with fail
    go_ret
    exact ⟨rfl, HB.out⟩
theorem own_any3 (a : Option Addr) (n c B : Nat) (R : List Tow) (w : World) (h : ERow w B (.slice a n c) R) (hb : ∀ u, Turns (fun k => inRow (.slice a n c) k) w u → ∀ x, x ∈ R → Bytes u x.kv x.e.key ∧ Bytes u x.vv x.e.val) (hn : n = R.length) (hmx : n ≤ 1000000) (hl : ∀ x, x ∈ R → x.e.key.length ≤ 1000000 ∧ x.e.val.length ≤ 1000000) :
    Calls Try.prog 30 #[.slice a n c] w fun e w' => ∃ Q, e = .returned (.slice a n c) ∧ ERow w' B (.slice a n c) Q ∧ ents Q = ents R ∧ Shown w' w.heap.size Q ∧ Typ5 w' Q ∧ Turns (fun k => inRow (.slice a n c) k) w w' := by
  rcases h with ⟨rfl, e⟩ | ⟨g, c', n', e, hn', hc, hB, hrow⟩
  · cases e
    refine (own_nil w).mono ?_
    rintro e w' ⟨rfl, t⟩
    exact ⟨[], rfl, .inl ⟨rfl, rfl⟩, rfl, fun x hx => (by cases hx), fun x hx => (by cases hx), t.mono fun _ _ x => x.elim⟩
  · cases e
    have hin : ∀ k, k = g → inRow (.slice (some ⟨g, 0, none⟩) n c) k := fun k e => ⟨n, c, by rw [e]⟩
    refine (own_row g n c R w hrow (fun u t => hb u (t.mono fun k _ e => hin k e)) hc hn hmx hl).mono ?_
    rintro e w' ⟨rfl, Q, h1, h2, h3, h4, h5, h6⟩
    rw [List.take_of_length_le (Nat.le_of_eq h1)] at h5
    exact ⟨Q, rfl, .inr ⟨g, c, n, rfl, h1.symm, hc, hB, h4⟩, h2, fun x hx => ⟨(h5 x hx).1, (h5 x hx).2.1, fun q hq => ((h5 x hx).2.2 q hq).1⟩, fun x hx q hq => ((h5 x hx).2.2 q hq).2, h6.mono fun k _ e => hin k e⟩
/-- An entry's size, as it counts in a file. -/
def sizE (x : Ent) : Nat := x.key.length + x.val.length + 32
def sizeEs (es : List Ent) : Nat := (es.map sizE).sum
theorem sizeEs_snoc (G : List Ent) (x : Ent) : sizeEs (G ++ [x]) = sizeEs G + sizE x := by simp [sizeEs]
theorem sizeEs_one (x : Ent) : sizeEs [x] = sizE x := by simp [sizeEs]
/-- Is the last one's key another one? -/
def diffL (G : List Ent) (x : Ent) : Bool := match G.getLast? with
  | none => false
  | some p => !decide (p.key = x.key)
def cutG (t : Int) : List Ent → List Ent → List (List Ent)
  | G, [] => if G = [] then [] else [G]
  | G, x :: r => if decide (t ≤ (sizeEs G : Int)) && diffL G x then G :: cutG t [x] r else cutG t (G ++ [x]) r
def cutE (t : Int) (es : List Ent) : List (List Ent) := cutG t [] es
theorem cutE_cons {t : Int} (x : Ent) (r : List Ent) : cutE t (x :: r) = cutG t [x] r := by
  unfold cutE
  rw [cutG, show diffL [] x = false from rfl, Bool.and_false]
  simp
def segE {α : Type} (l : List α) (b i : Nat) : List α := (l.take i).drop b
theorem segE_length {α : Type} (l : List α) (b i : Nat) (h : i ≤ l.length) : (segE l b i).length = i - b := by
  unfold segE
  rw [List.length_drop, List.length_take]
  omega
theorem segE_succ {α : Type} {l : List α} {b i : Nat} {x : α} (h : l[i]? = some x) (hb : b ≤ i) : segE l b (i + 1) = segE l b i ++ [x] := by
  have hi := (List.getElem?_eq_some_iff.1 h).1
  unfold segE
  rw [List.take_add_one, h, List.drop_append, List.length_take]
  have : b - min i l.length = 0 := by omega
  rw [this]
  rfl
theorem segE_self {α : Type} (l : List α) (b : Nat) : segE l b b = [] := by
  unfold segE
  rw [List.drop_eq_nil_of_le (by rw [List.length_take]; omega)]
theorem segE_map {α β : Type} (f : α → β) (l : List α) (b i : Nat) : (segE l b i).map f = segE (l.map f) b i := by
  unfold segE
  rw [List.map_drop, List.map_take]
theorem segE_last {α : Type} {l : List α} {b i : Nat} {x : α} (h : l[i]? = some x) (hb : b ≤ i) : (segE l b (i + 1)).getLast? = some x := by
  rw [segE_succ h hb]
  simp
theorem segE_at {α : Type} (l : List α) (b i k : Nat) : (segE l b i)[k]? = if b + k < i then l[b + k]? else none := by
  unfold segE
  rw [List.getElem?_drop, List.getElem?_take]
theorem Ents.seg {w : World} {g off : Nat} {R : List Tow} (h : Ents w (some ⟨g, off, none⟩) R) (b i : Nat) : Ents w (some ⟨g, off + b * 4, none⟩) (segE R b i) := fun k x hx => by
  rw [segE_at] at hx
  split at hx
  · obtain ⟨⟨b', off', e, hc⟩, h1⟩ := h (b + k) x hx
    cases e
    exact ⟨⟨g, off + b * 4, rfl, fun j u hu => by rw [← hc j u hu]; congr 2; omega⟩, h1⟩
  · cases hx
theorem cutG_stop {t : Int} {G r : List Ent} {x : Ent} (h : (decide (t ≤ (sizeEs G : Int)) && diffL G x) = true) : cutG t G (x :: r) = G :: cutG t [x] r := by
  rw [cutG, if_pos h]
theorem cutG_go {t : Int} {G r : List Ent} {x : Ent} (h : (decide (t ≤ (sizeEs G : Int)) && diffL G x) = false) : cutG t G (x :: r) = cutG t (G ++ [x]) r := by
  rw [cutG, h]
  rfl
theorem sizeEs_pos {G : List Ent} (h : 1 ≤ sizeEs G) : G ≠ [] := fun e => by rw [e] at h; simp [sizeEs] at h
end Go.Proofs.Ytpgligfolecieaa
