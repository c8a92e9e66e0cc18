/-
  A write, read.
-/
import Derived.Test.YtpdlbepkkfoadaaRp
namespace Go.Proofs.Ytpdlbepkkfoadaa
open Go.RowKit
set_option maxRecDepth 100000
set_option maxHeartbeats 4000000
theorem heap_drew {w w' : World} {m k : Nat} {o : Obj} (h : w' = w.drewN m) (ho : w.heap[k]? = some o) : w'.heap[k]? = some o := by rw [h]; exact ho
theorem set3 {w : World} {G : Nat} {t : TypeId} {x0 x1 x2 a b c : Value} (h : w.heap[G]? = some (.cells #[x0, x1, x2] t (0, 0))) :
    (((w.setCell ⟨G, 0, none⟩ a).setCell ⟨G, 1, none⟩ b).setCell ⟨G, 2, none⟩ c).heap[G]? = some (.cells #[a, b, c] t (0, 0)) := by
  have s0 := heap_setCell_same _ G 0 _ t a h
  simp only [List.setIfInBounds_toArray, List.set_cons_zero] at s0
  have s1 := heap_setCell_same _ G 1 _ t b s0
  simp only [List.setIfInBounds_toArray, List.set_cons_succ, List.set_cons_zero] at s1
  have s2 := heap_setCell_same _ G 2 _ t c s1
  simp only [List.setIfInBounds_toArray, List.set_cons_succ, List.set_cons_zero] at s2
  exact s2
theorem cell_other3 {w : World} {G : Nat} {i0 i1 i2 : Nat} {v0 v1 v2 v : Value} {p : Addr} (h : w.cell? p = some v) (hp : p.block ≠ G) : (((w.setCell ⟨G, i0, none⟩ v0).setCell ⟨G, i1, none⟩ v1).setCell ⟨G, i2, none⟩ v2).cell? p = some v :=
  (turns_cell (turns_cell (turns_cell (Turns.refl (fun j => j = G) w) i0 v0) i1 v1) i2 v2).cell h hp
theorem piece_err (r : Nat) (p : List (BitVec 8)) (i : Nat) (z : Int) (hz : z ≠ 0) (w : World) (h : Rdr w r p i z) :
    Calls Try.prog 49 #[.pointer (some ⟨r, 0, none⟩)] w fun e w' => e = .returned (.slice none 0 0) ∧ ∃ m, w' = w.drewN m := by
  have H := hide h
  clear h
  go_enter Try.func49, Try.ntmps49
  go_wp2_with fail
  refine (ready_any r p i z w H.out).mono ?_
  rintro e w1 ⟨rfl, m, rfl⟩
  rw [decide_eq_false hz]
  go_wp2_with fail
  go_ret
  exact ⟨rfl, m, rfl⟩
/-- What readWrite answers. -/
def WriteOk (r : Nat) (p : List (BitVec 8)) (W : Nat) (e : Ending) (w' : World) : Except Int (Wr × List (BitVec 8)) → Prop
  | .error z => z ≠ 0 ∧ ∃ k ka kn kc va vn vc, e = .returned (.tuple #[.agg #[.int .i64 k, .slice ka kn kc, .slice va vn vc], .int .i64 z])
  | .ok (x, rest) => ∃ ka kc va vc, e = .returned (.tuple #[.agg #[.int .i64 x.1, .slice ka x.2.1.length kc, .slice va x.2.2.length vc], .int .i64 0]) ∧ Bytes w' (.slice ka x.2.1.length kc) x.2.1 ∧ Bytes w' (.slice va x.2.2.length vc) x.2.2 ∧ (∀ a, ka = some a → W ≤ a.block) ∧ (∀ a, va = some a → W ≤ a.block) ∧ RdrL w' r p rest 0
theorem readWrite_any (r : Nat) (p rest : List (BitVec 8)) (w : World) (h : RdrL w r p rest 0) (hp : p.length ≤ 1000000) :
    Calls Try.prog 29 #[.pointer (some ⟨r, 0, none⟩)] w fun e w' => WriteOk r p w.heap.size e w' (rdWrite rest) ∧ Turns (fun j => j = r) w w' := by
  obtain ⟨i, hi, rfl, h⟩ := h
  have hlt : r < w.heap.size := by
    obtain ⟨_, _, hr, _⟩ := h
    exact lt_of_heap hr
  have b0 := (Below.refl w.heap.size w).alloc (Nat.le_refl _) (.cells #[.int .i64 0, .slice none 0 0, .slice none 0 0] 24)
  have n0 := heap_alloc_new w (.cells #[.int .i64 0, .slice none 0 0, .slice none 0 0] 24)
  have h0 := Rdr.turns (S := fun _ => False) h (Turns.of_below b0 _) (fun x => x)
  have H0 := hide h0
  have N0 := hide n0
  have B0 := hide b0
  clear h h0 n0 b0
  go_enter Try.func29, Try.ntmps29
  go_wp2_with fail
  generalize hw0 : w.alloc (.cells #[.int .i64 0, .slice none 0 0, .slice none 0 0] 24) = w0 at *
  clear hw0
  have hlt0 : w.heap.size < w0.heap.size := lt_of_heap N0.out
  refine (fixed_one r p i w0 H0.out hp hi).mono ?_
  rintro e w1 ⟨hf, t1⟩
  have N1 := hide (t1.heap N0.out (by omega))
  have T1 := hide ((Turns.of_below B0.out (fun j => j = r)).trans t1)
  have hs1 := t1.size
  by_cases hil : i < p.length
  · rw [if_pos hil] at hf
    obtain ⟨a1, c1, rfl, hb1, hk1, h1⟩ := hf
    have hdrop : p.drop i = p[i] :: p.drop (i + 1) := List.drop_eq_getElem_cons hil
    generalize p[i] = b at *
    rw [hdrop] at hb1
    have hb1' : Bytes w1 (.slice a1 1 c1) [b] := hb1
    obtain ⟨q1, o1, rfl⟩ := hb1'.addr (by decide)
    have hc := hb1'.at 0 (by simp)
    have hc' : w1.cell? ⟨q1, o1, none⟩ = some (.int .u8 (b.toNat : Int)) := hc
    have hbl := b.isLt
    have H1 := hide h1
    have HDROP := hide hdrop
    clear hb1 hb1' hk1 h1 hc hdrop t1
    generalize hz : b.toNat = z at *
    have HZ := hide hz
    clear hz
    go_wp2_with fail
    refine (err_any r p (i + 1) 0 w1 H1.out).mono ?_
    rintro e w2 ⟨rfl, m, hw2⟩
    have H2 := hide (show Rdr w2 r p (i + 1) 0 by rw [hw2]; exact H1.out.drewN m)
    have N2 : Hid (w2.heap[w.heap.size]? = some (.cells #[.int .i64 0, .slice none 0 0, .slice none 0 0] 24 (0, 0))) := hide (by rw [hw2]; exact N1.out)
    have T2 := hide (show Turns (fun j => j = r) w w2 by rw [hw2]; exact T1.out.drewN m)
    have d0 : w2.cell? ⟨q1, o1, none⟩ = some (.int .u8 (z : Int)) := by rw [hw2, World.cell?_drewN]; exact hc'
    have hs2 : w0.heap.size ≤ w2.heap.size := by rw [hw2]; exact hs1
    clear hw2 H1 N1 T1 hc' hs1
    have b3 := (Below.refl w2.heap.size w2).alloc (Nat.le_refl _) (.cells #[.int .i64 (z : Int), .slice none 0 0, .slice none 0 0] 24)
    have X3 := hide (heap_alloc_new w2 (.cells #[.int .i64 (z : Int), .slice none 0 0, .slice none 0 0] 24))
    have H3 := hide (Rdr.turns (S := fun _ => False) H2.out (Turns.of_below b3 _) (fun x => x))
    have N3 := hide (heap_keep b3 N2.out)
    have T3 := hide (T2.out.trans (Turns.of_below b3 _))
    have hX : w2.heap.size < (w2.alloc (.cells #[.int .i64 (z : Int), .slice none 0 0, .slice none 0 0] 24)).heap.size := lt_of_heap X3.out
    clear b3 H2 N2 T2
    go_wp2_with fail
    generalize w2.alloc (.cells #[.int .i64 (z : Int), .slice none 0 0, .slice none 0 0] 24) = w3 at *
    generalize hXX : w2.heap.size = X at *
    clear d0 hXX
    refine (isKind_any (z : Int) _).mono ?_
    rintro e w4 ⟨rfl, rfl⟩
    by_cases hkind : z = 1 ∨ z = 2
    · have hkd : ((z : Int) == 1 || (z : Int) == 2) = true := by rcases hkind with rfl | rfl <;> rfl
      rw [hkd]
      clear hkd
      have x0 := cell_of_row w4 X 0 _ 24 (0, 0) X3.out
      have fx := frozen_of_row w4 X 1 _ 24 X3.out
      go_wp2_with fail
      refine (piece_any r p (p.drop (i + 1)) w4 ⟨i + 1, by omega, rfl, H3.out⟩ hp).mono ?_
      rintro e w5 ⟨hpc, t5⟩
      have X5 := hide (t5.heap X3.out (by omega))
      have N5 := hide (t5.heap N3.out (by omega))
      have T5 := hide (T3.out.trans t5)
      have hs5 : w4.heap.size ≤ w5.heap.size := t5.size
      have y0 := cell_of_row w5 X 0 _ 24 (0, 0) X5.out
      have y1 := cell_of_row w5 X 1 _ 24 (0, 0) X5.out
      have y2 := cell_of_row w5 X 2 _ 24 (0, 0) X5.out
      have z1 := frozen_of_row w5 X 1 _ 24 X5.out
      have z2 := frozen_of_row w5 X 2 _ 24 X5.out
      simp at y0 y1 y2
      clear t5 x0 fx X3 N3 T3 H3
      rcases hkind with rfl | rfl
      · skip
        cases hq : rdPiece (p.drop (i + 1)) with
        | error zz =>
          rw [hq] at hpc
          obtain ⟨rfl, hzz, rest1, i1, hi1, _, H5'⟩ := hpc
          have H5 := hide H5'
          have hres : rdWrite (p.drop i) = .error zz := by rw [HDROP.out, rdWrite, HZ.out, if_neg (by decide), hq]
          have HRES := hide hres
          clear hres H5' hq
          go_wp2_with fail
          have X6 := hide (heap_setCell_same _ X 1 _ 24 (.slice none 0 0) X5.out)
          simp only [List.setIfInBounds_toArray, List.set_cons_succ, List.set_cons_zero] at X6
          have tt := turns_cell (Turns.refl (fun j => j = X) w5) 1 (.slice none 0 0)
          have N6 := hide (tt.heap N5.out (by omega))
          have T6 := hide (T5.out.andThen tt (fun k hk e => by omega))
          have H6 := hide (H5.out.keep tt (fun k e => by omega))
          clear tt
          generalize w5.setCell ⟨X, 1, none⟩ (.slice none 0 0) = w6 at *
          clear y0 y1 y2 z1 z2
          have y0 := cell_of_row w6 X 0 _ 24 (0, 0) X6.out
          have y1 := cell_of_row w6 X 1 _ 24 (0, 0) X6.out
          have y2 := cell_of_row w6 X 2 _ 24 (0, 0) X6.out
          have z1 := frozen_of_row w6 X 1 _ 24 X6.out
          have z2 := frozen_of_row w6 X 2 _ 24 X6.out
          simp at y0 y1 y2
          try go_wp2_with fail
          refine (piece_err r p i1 zz hzz w6 H6.out).mono ?_
          rintro e w7 ⟨rfl, m7, hw7⟩
          have H7 := hide (show Rdr w7 r p i1 zz by rw [hw7]; exact H6.out.drewN m7)
          have X7 := hide (heap_drew hw7 X6.out)
          have N7 := hide (heap_drew hw7 N6.out)
          have T7 := hide (show Turns (fun j => j = r) w w7 by rw [hw7]; exact T6.out.drewN m7)
          clear hw7 y0 y1 y2 z1 z2
          have y0 := cell_of_row w7 X 0 _ 24 (0, 0) X7.out
          have y1 := cell_of_row w7 X 1 _ 24 (0, 0) X7.out
          have y2 := cell_of_row w7 X 2 _ 24 (0, 0) X7.out
          have z1 := frozen_of_row w7 X 1 _ 24 X7.out
          have z2 := frozen_of_row w7 X 2 _ 24 X7.out
          simp at y0 y1 y2
          go_wp2_with fail
          have X8 := hide (heap_setCell_same _ X 2 _ 24 (.slice none 0 0) X7.out)
          simp only [List.setIfInBounds_toArray, List.set_cons_succ, List.set_cons_zero] at X8
          have tt := turns_cell (Turns.refl (fun j => j = X) w7) 2 (.slice none 0 0)
          have N8 := hide (tt.heap N7.out (by omega))
          have T8 := hide (T7.out.andThen tt (fun k hk e => by omega))
          have H8 := hide (H7.out.keep tt (fun k e => by omega))
          clear tt
          generalize w7.setCell ⟨X, 2, none⟩ (.slice none 0 0) = w8 at *
          clear y0 y1 y2 z1 z2
          have y0 := cell_of_row w8 X 0 _ 24 (0, 0) X8.out
          have y1 := cell_of_row w8 X 1 _ 24 (0, 0) X8.out
          have y2 := cell_of_row w8 X 2 _ 24 (0, 0) X8.out
          have z1 := frozen_of_row w8 X 1 _ 24 X8.out
          have z2 := frozen_of_row w8 X 2 _ 24 X8.out
          simp at y0 y1 y2
          clear z1 z2
          go_wp2_with fail
          go_region_held (fun w' => w'.cell? ⟨X, 0, none⟩ = some (.int .i64 1) ∧ w'.cell? ⟨X, 1, none⟩ = some (.slice none 0 0) ∧ w'.cell? ⟨X, 2, none⟩ = some (.slice none 0 0)) (first | (with_reducible exact ⟨e0, e1, e2⟩) | (simp only [World.cell?_drew]; with_reducible exact ⟨y0, y1, y2⟩) | exact ⟨cell_other3 e0 (by show X ≠ w.heap.size; omega), cell_other3 e1 (by show X ≠ w.heap.size; omega), cell_other3 e2 (by show X ≠ w.heap.size; omega)⟩) (first
            | (go_at_call 48; refine (err_any r p i1 zz w8.drew H8.out).mono ?_; rintro e wE ⟨rfl, mE, hwE⟩; have NE := hide (heap_drew (w := w8.drew) hwE N8.out); have XE := hide (heap_drew (w := w8.drew) hwE X8.out); have TE := hide (show Turns (fun j => j = r) w wE by rw [hwE]; exact T8.out.drew.drewN mE); have hDE : wE = w8.drew.drewN mE := hwE; have HDE := hide hDE; clear hwE hDE; have e0 := cell_of_row wE X 0 _ 24 (0, 0) XE.out; have e1 := cell_of_row wE X 1 _ 24 (0, 0) XE.out; have e2 := cell_of_row wE X 2 _ 24 (0, 0) XE.out; have q0 := cell_of_row wE w.heap.size 0 _ 24 (0, 0) NE.out; have q1 := cell_of_row wE w.heap.size 1 _ 24 (0, 0) NE.out; have q2 := cell_of_row wE w.heap.size 2 _ 24 (0, 0) NE.out; have u0 := frozen_of_row wE w.heap.size 0 _ 24 NE.out; have u1 := frozen_of_row wE w.heap.size 1 _ 24 NE.out; have u2 := frozen_of_row wE w.heap.size 2 _ 24 NE.out; simp at e0 e1 e2 q0 q1 q2))
          go_wp2_with fail
          have tF := turns_cell (turns_cell (turns_cell (Turns.refl (fun j => j = w.heap.size) wE) 0 (.int .i64 1)) 1 (.slice none 0 0)) 2 (.slice none 0 0)
          refine bodyPost_ret (v := .tuple #[.agg #[.int .i64 1, .slice none 0 0, .slice none 0 0], .int .i64 zz]) ?_ rfl ?_
          · exact results_cell_tmp Try.results29 _ _ _ _ _ _ _ _ rfl rfl (set3 NE.out) Try.underlying24 rfl info24
          · refine ⟨?_, TE.out.andThen tF (fun k hk e => by omega)⟩
            rw [HRES.out]
            exact ⟨hzz, _, _, _, _, _, _, _, rfl⟩
        | ok qr =>
          obtain ⟨key, r1⟩ := qr
          rw [hq] at hpc
          obtain ⟨⟨ak, ck, rfl, hbk, hkk⟩, i1, hi1, hd1, H5'⟩ := hpc
          have H5 := hide H5'
          have HBK5 := hide hbk
          have HKK := hide hkk
          have HQ1 := hide hq
          clear hbk hkk H5' hq
          go_wp2_with fail
          have X6 := hide (heap_setCell_same _ X 1 _ 24 (.slice ak key.length ck) X5.out)
          simp only [List.setIfInBounds_toArray, List.set_cons_succ, List.set_cons_zero] at X6
          have tt := turns_cell (Turns.refl (fun j => j = X) w5) 1 (.slice ak key.length ck)
          have N6 := hide (tt.heap N5.out (by omega))
          have T6 := hide (T5.out.andThen tt (fun k hk e => by omega))
          have H6 := hide (H5.out.keep tt (fun k e => by omega))
          have hs6' : w5.heap.size ≤ (w5.setCell ⟨X, 1, none⟩ (.slice ak key.length ck)).heap.size := tt.size
          have HBK6 := hide (HBK5.out.turns tt (fun x n c e => by cases e; have := HKK.out x rfl; show ¬ x.block = X; omega))
          clear tt
          generalize w5.setCell ⟨X, 1, none⟩ (.slice ak key.length ck) = w6 at *
          clear y0 y1 y2 z1 z2
          have y0 := cell_of_row w6 X 0 _ 24 (0, 0) X6.out
          have y1 := cell_of_row w6 X 1 _ 24 (0, 0) X6.out
          have y2 := cell_of_row w6 X 2 _ 24 (0, 0) X6.out
          have z1 := frozen_of_row w6 X 1 _ 24 X6.out
          have z2 := frozen_of_row w6 X 2 _ 24 X6.out
          simp at y0 y1 y2
          try go_wp2_with fail
          refine (piece_any r p r1 w6 ⟨i1, hi1, hd1, H6.out⟩ hp).mono ?_
          rintro e w7 ⟨hpv, t7⟩
          have hs6 : w5.heap.size ≤ w6.heap.size := hs6'
          have X7 := hide (t7.heap X6.out (by omega))
          have N7 := hide (t7.heap N6.out (by omega))
          have T7 := hide (T6.out.trans t7)
          have HBK7 := hide (HBK6.out.turns t7 (fun x n c e => by cases e; have := HKK.out x rfl; show ¬ x.block = r; omega))
          clear t7 y0 y1 y2 z1 z2
          have y0 := cell_of_row w7 X 0 _ 24 (0, 0) X7.out
          have y1 := cell_of_row w7 X 1 _ 24 (0, 0) X7.out
          have y2 := cell_of_row w7 X 2 _ 24 (0, 0) X7.out
          have z1 := frozen_of_row w7 X 1 _ 24 X7.out
          have z2 := frozen_of_row w7 X 2 _ 24 X7.out
          simp at y0 y1 y2
          cases hq2 : rdPiece r1 with
          | error zz =>
            rw [hq2] at hpv
            obtain ⟨rfl, hzz, rest2, i2, hi2, _, H7'⟩ := hpv
            have H7 := hide H7'
            have hres : rdWrite (p.drop i) = .error zz := by rw [HDROP.out, rdWrite, HZ.out, if_neg (by decide), HQ1.out]; simp only [if_true]; rw [hq2]
            have HRES := hide hres
            clear hres H7' hq2
            go_wp2_with fail
            have X8 := hide (heap_setCell_same _ X 2 _ 24 (.slice none 0 0) X7.out)
            simp only [List.setIfInBounds_toArray, List.set_cons_succ, List.set_cons_zero] at X8
            have tt := turns_cell (Turns.refl (fun j => j = X) w7) 2 (.slice none 0 0)
            have N8 := hide (tt.heap N7.out (by omega))
            have T8 := hide (T7.out.andThen tt (fun k hk e => by omega))
            have H8 := hide (H7.out.keep tt (fun k e => by omega))
            clear tt
            generalize w7.setCell ⟨X, 2, none⟩ (.slice none 0 0) = w8 at *
            clear y0 y1 y2 z1 z2
            have y0 := cell_of_row w8 X 0 _ 24 (0, 0) X8.out
            have y1 := cell_of_row w8 X 1 _ 24 (0, 0) X8.out
            have y2 := cell_of_row w8 X 2 _ 24 (0, 0) X8.out
            have z1 := frozen_of_row w8 X 1 _ 24 X8.out
            have z2 := frozen_of_row w8 X 2 _ 24 X8.out
            simp at y0 y1 y2
            clear z1 z2
            go_wp2_with fail
            go_region_held (fun w' => w'.cell? ⟨X, 0, none⟩ = some (.int .i64 1) ∧ w'.cell? ⟨X, 1, none⟩ = some (.slice ak key.length ck) ∧ w'.cell? ⟨X, 2, none⟩ = some (.slice none 0 0)) (first | (with_reducible exact ⟨e0, e1, e2⟩) | (simp only [World.cell?_drew]; with_reducible exact ⟨y0, y1, y2⟩) | exact ⟨cell_other3 e0 (by show X ≠ w.heap.size; omega), cell_other3 e1 (by show X ≠ w.heap.size; omega), cell_other3 e2 (by show X ≠ w.heap.size; omega)⟩) (first
              | (go_at_call 48; refine (err_any r p i2 zz w8.drew H8.out).mono ?_; rintro e wE ⟨rfl, mE, hwE⟩; have NE := hide (heap_drew (w := w8.drew) hwE N8.out); have XE := hide (heap_drew (w := w8.drew) hwE X8.out); have TE := hide (show Turns (fun j => j = r) w wE by rw [hwE]; exact T8.out.drew.drewN mE); have hDE : wE = w8.drew.drewN mE := hwE; have HDE := hide hDE; clear hwE hDE; have e0 := cell_of_row wE X 0 _ 24 (0, 0) XE.out; have e1 := cell_of_row wE X 1 _ 24 (0, 0) XE.out; have e2 := cell_of_row wE X 2 _ 24 (0, 0) XE.out; have q0 := cell_of_row wE w.heap.size 0 _ 24 (0, 0) NE.out; have q1 := cell_of_row wE w.heap.size 1 _ 24 (0, 0) NE.out; have q2 := cell_of_row wE w.heap.size 2 _ 24 (0, 0) NE.out; have u0 := frozen_of_row wE w.heap.size 0 _ 24 NE.out; have u1 := frozen_of_row wE w.heap.size 1 _ 24 NE.out; have u2 := frozen_of_row wE w.heap.size 2 _ 24 NE.out; simp at e0 e1 e2 q0 q1 q2))
            go_wp2_with fail
            have tF := turns_cell (turns_cell (turns_cell (Turns.refl (fun j => j = w.heap.size) wE) 0 (.int .i64 1)) 1 (.slice ak key.length ck)) 2 (.slice none 0 0)
            refine bodyPost_ret (v := .tuple #[.agg #[.int .i64 1, .slice ak key.length ck, .slice none 0 0], .int .i64 zz]) ?_ rfl ?_
            · exact results_cell_tmp Try.results29 _ _ _ _ _ _ _ _ rfl rfl (set3 NE.out) Try.underlying24 rfl info24
            · refine ⟨?_, TE.out.andThen tF (fun k hk e => by omega)⟩
              rw [HRES.out]
              exact ⟨hzz, _, _, _, _, _, _, _, rfl⟩
          | ok qv =>
            obtain ⟨val, r2⟩ := qv
            rw [hq2] at hpv
            obtain ⟨⟨av, cv, rfl, hbv, hkv⟩, i2, hi2, hd2, H7'⟩ := hpv
            have H7 := hide H7'
            have HBV7 := hide hbv
            have HKV := hide hkv
            have hres : rdWrite (p.drop i) = .ok ((1, key, val), r2) := by rw [HDROP.out, rdWrite, HZ.out, if_neg (by decide), HQ1.out]; simp only [if_true]; rw [hq2]
            have HRES := hide hres
            clear hres H7' hq2 hbv hkv
            go_wp2_with fail
            have X8 := hide (heap_setCell_same _ X 2 _ 24 (.slice av val.length cv) X7.out)
            simp only [List.setIfInBounds_toArray, List.set_cons_succ, List.set_cons_zero] at X8
            have tt := turns_cell (Turns.refl (fun j => j = X) w7) 2 (.slice av val.length cv)
            have N8 := hide (tt.heap N7.out (by omega))
            have T8 := hide (T7.out.andThen tt (fun k hk e => by omega))
            have H8 := hide (H7.out.keep tt (fun k e => by omega))
            have HBK8 := hide (HBK7.out.turns tt (fun x n c e => by cases e; have := HKK.out x rfl; show ¬ x.block = X; omega))
            have HBV8 := hide (HBV7.out.turns tt (fun x n c e => by cases e; have := HKV.out x rfl; show ¬ x.block = X; omega))
            clear tt
            generalize w7.setCell ⟨X, 2, none⟩ (.slice av val.length cv) = w8 at *
            clear y0 y1 y2 z1 z2
            have y0 := cell_of_row w8 X 0 _ 24 (0, 0) X8.out
            have y1 := cell_of_row w8 X 1 _ 24 (0, 0) X8.out
            have y2 := cell_of_row w8 X 2 _ 24 (0, 0) X8.out
            have z1 := frozen_of_row w8 X 1 _ 24 X8.out
            have z2 := frozen_of_row w8 X 2 _ 24 X8.out
            simp at y0 y1 y2
            clear z1 z2
            go_wp2_with fail
            go_region_held (fun w' => w'.cell? ⟨X, 0, none⟩ = some (.int .i64 1) ∧ w'.cell? ⟨X, 1, none⟩ = some (.slice ak key.length ck) ∧ w'.cell? ⟨X, 2, none⟩ = some (.slice av val.length cv)) (first | (with_reducible exact ⟨e0, e1, e2⟩) | (simp only [World.cell?_drew]; with_reducible exact ⟨y0, y1, y2⟩) | exact ⟨cell_other3 e0 (by show X ≠ w.heap.size; omega), cell_other3 e1 (by show X ≠ w.heap.size; omega), cell_other3 e2 (by show X ≠ w.heap.size; omega)⟩) (first
              | (go_at_call 48; refine (err_any r p i2 0 w8.drew H8.out).mono ?_; rintro e wE ⟨rfl, mE, hwE⟩; have NE := hide (heap_drew (w := w8.drew) hwE N8.out); have XE := hide (heap_drew (w := w8.drew) hwE X8.out); have TE := hide (show Turns (fun j => j = r) w wE by rw [hwE]; exact T8.out.drew.drewN mE); have hDE : wE = w8.drew.drewN mE := hwE; have HDE := hide hDE; clear hwE hDE; have e0 := cell_of_row wE X 0 _ 24 (0, 0) XE.out; have e1 := cell_of_row wE X 1 _ 24 (0, 0) XE.out; have e2 := cell_of_row wE X 2 _ 24 (0, 0) XE.out; have q0 := cell_of_row wE w.heap.size 0 _ 24 (0, 0) NE.out; have q1 := cell_of_row wE w.heap.size 1 _ 24 (0, 0) NE.out; have q2 := cell_of_row wE w.heap.size 2 _ 24 (0, 0) NE.out; have u0 := frozen_of_row wE w.heap.size 0 _ 24 NE.out; have u1 := frozen_of_row wE w.heap.size 1 _ 24 NE.out; have u2 := frozen_of_row wE w.heap.size 2 _ 24 NE.out; simp at e0 e1 e2 q0 q1 q2))
            go_wp2_with fail
            have tF := turns_cell (turns_cell (turns_cell (Turns.refl (fun j => j = w.heap.size) wE) 0 (.int .i64 1)) 1 (.slice ak key.length ck)) 2 (.slice av val.length cv)
            refine bodyPost_ret (v := .tuple #[.agg #[.int .i64 1, .slice ak key.length ck, .slice av val.length cv], .int .i64 0]) ?_ rfl ?_
            · exact results_cell_tmp Try.results29 _ _ _ _ _ _ _ _ rfl rfl (set3 NE.out) Try.underlying24 rfl info24
            · refine ⟨?_, TE.out.andThen tF (fun k hk e => by omega)⟩
              rw [HRES.out]
              have hbk : Bytes wE (.slice ak key.length ck) key := by rw [HDE.out]; exact HBK8.out
              have hbv : Bytes wE (.slice av val.length cv) val := by rw [HDE.out]; exact HBV8.out
              refine ⟨ak, ck, av, cv, rfl, hbk.turns tF (fun x n c e => by cases e; have := HKK.out x rfl; show ¬ x.block = w.heap.size; omega), hbv.turns tF (fun x n c e => by cases e; have := HKV.out x rfl; show ¬ x.block = w.heap.size; omega), fun a e => by have := HKK.out a e; omega, fun a e => by have := HKV.out a e; omega, i2, hi2, hd2, ?_⟩
              have hE : Rdr wE r p i2 0 := by rw [HDE.out]; exact (H8.out : Rdr w8.drew r p i2 0).drewN mE
              exact hE.keep tF (fun k e => by omega)
      · skip
        cases hq : rdPiece (p.drop (i + 1)) with
        | error zz =>
          rw [hq] at hpc
          obtain ⟨rfl, hzz, rest1, i1, hi1, _, H5'⟩ := hpc
          have H5 := hide H5'
          have hres : rdWrite (p.drop i) = .error zz := by rw [HDROP.out, rdWrite, HZ.out, if_neg (by decide), hq]
          have HRES := hide hres
          clear hres H5' hq
          go_wp2_with fail
          have X6 := hide (heap_setCell_same _ X 1 _ 24 (.slice none 0 0) X5.out)
          simp only [List.setIfInBounds_toArray, List.set_cons_succ, List.set_cons_zero] at X6
          have tt := turns_cell (Turns.refl (fun j => j = X) w5) 1 (.slice none 0 0)
          have N6 := hide (tt.heap N5.out (by omega))
          have T6 := hide (T5.out.andThen tt (fun k hk e => by omega))
          have H6 := hide (H5.out.keep tt (fun k e => by omega))
          clear tt
          generalize w5.setCell ⟨X, 1, none⟩ (.slice none 0 0) = w6 at *
          clear y0 y1 y2 z1 z2
          have y0 := cell_of_row w6 X 0 _ 24 (0, 0) X6.out
          have y1 := cell_of_row w6 X 1 _ 24 (0, 0) X6.out
          have y2 := cell_of_row w6 X 2 _ 24 (0, 0) X6.out
          have z1 := frozen_of_row w6 X 1 _ 24 X6.out
          have z2 := frozen_of_row w6 X 2 _ 24 X6.out
          simp at y0 y1 y2
          clear z1 z2
          go_wp2_with fail
          go_region_held (fun w' => w'.cell? ⟨X, 0, none⟩ = some (.int .i64 2) ∧ w'.cell? ⟨X, 1, none⟩ = some (.slice none 0 0) ∧ w'.cell? ⟨X, 2, none⟩ = some (.slice none 0 0)) (first | (with_reducible exact ⟨e0, e1, e2⟩) | (simp only [World.cell?_drew]; with_reducible exact ⟨y0, y1, y2⟩) | exact ⟨cell_other3 e0 (by show X ≠ w.heap.size; omega), cell_other3 e1 (by show X ≠ w.heap.size; omega), cell_other3 e2 (by show X ≠ w.heap.size; omega)⟩) (first
            | (go_at_call 48; refine (err_any r p i1 zz w6.drew H6.out).mono ?_; rintro e wE ⟨rfl, mE, hwE⟩; have NE := hide (heap_drew (w := w6.drew) hwE N6.out); have XE := hide (heap_drew (w := w6.drew) hwE X6.out); have TE := hide (show Turns (fun j => j = r) w wE by rw [hwE]; exact T6.out.drew.drewN mE); have hDE : wE = w6.drew.drewN mE := hwE; have HDE := hide hDE; clear hwE hDE; have e0 := cell_of_row wE X 0 _ 24 (0, 0) XE.out; have e1 := cell_of_row wE X 1 _ 24 (0, 0) XE.out; have e2 := cell_of_row wE X 2 _ 24 (0, 0) XE.out; have q0 := cell_of_row wE w.heap.size 0 _ 24 (0, 0) NE.out; have q1 := cell_of_row wE w.heap.size 1 _ 24 (0, 0) NE.out; have q2 := cell_of_row wE w.heap.size 2 _ 24 (0, 0) NE.out; have u0 := frozen_of_row wE w.heap.size 0 _ 24 NE.out; have u1 := frozen_of_row wE w.heap.size 1 _ 24 NE.out; have u2 := frozen_of_row wE w.heap.size 2 _ 24 NE.out; simp at e0 e1 e2 q0 q1 q2))
          go_wp2_with fail
          have tF := turns_cell (turns_cell (turns_cell (Turns.refl (fun j => j = w.heap.size) wE) 0 (.int .i64 2)) 1 (.slice none 0 0)) 2 (.slice none 0 0)
          refine bodyPost_ret (v := .tuple #[.agg #[.int .i64 2, .slice none 0 0, .slice none 0 0], .int .i64 zz]) ?_ rfl ?_
          · exact results_cell_tmp Try.results29 _ _ _ _ _ _ _ _ rfl rfl (set3 NE.out) Try.underlying24 rfl info24
          · refine ⟨?_, TE.out.andThen tF (fun k hk e => by omega)⟩
            rw [HRES.out]
            exact ⟨hzz, _, _, _, _, _, _, _, rfl⟩
        | ok qr =>
          obtain ⟨key, r1⟩ := qr
          rw [hq] at hpc
          obtain ⟨⟨ak, ck, rfl, hbk, hkk⟩, i1, hi1, hd1, H5'⟩ := hpc
          have H5 := hide H5'
          have HBK5 := hide hbk
          have HKK := hide hkk
          have HQ1 := hide hq
          clear hbk hkk H5' hq
          go_wp2_with fail
          have X6 := hide (heap_setCell_same _ X 1 _ 24 (.slice ak key.length ck) X5.out)
          simp only [List.setIfInBounds_toArray, List.set_cons_succ, List.set_cons_zero] at X6
          have tt := turns_cell (Turns.refl (fun j => j = X) w5) 1 (.slice ak key.length ck)
          have N6 := hide (tt.heap N5.out (by omega))
          have T6 := hide (T5.out.andThen tt (fun k hk e => by omega))
          have H6 := hide (H5.out.keep tt (fun k e => by omega))
          have hs6' : w5.heap.size ≤ (w5.setCell ⟨X, 1, none⟩ (.slice ak key.length ck)).heap.size := tt.size
          have HBK6 := hide (HBK5.out.turns tt (fun x n c e => by cases e; have := HKK.out x rfl; show ¬ x.block = X; omega))
          clear tt
          generalize w5.setCell ⟨X, 1, none⟩ (.slice ak key.length ck) = w6 at *
          have hres : rdWrite (p.drop i) = .ok ((2, key, []), r1) := by rw [HDROP.out, rdWrite, HZ.out, if_neg (by decide), HQ1.out]; rfl
          have HRES := hide hres
          clear hres
          clear y0 y1 y2 z1 z2
          have y0 := cell_of_row w6 X 0 _ 24 (0, 0) X6.out
          have y1 := cell_of_row w6 X 1 _ 24 (0, 0) X6.out
          have y2 := cell_of_row w6 X 2 _ 24 (0, 0) X6.out
          have z1 := frozen_of_row w6 X 1 _ 24 X6.out
          have z2 := frozen_of_row w6 X 2 _ 24 X6.out
          simp at y0 y1 y2
          clear z1 z2
          go_wp2_with fail
          go_region_held (fun w' => w'.cell? ⟨X, 0, none⟩ = some (.int .i64 2) ∧ w'.cell? ⟨X, 1, none⟩ = some (.slice ak key.length ck) ∧ w'.cell? ⟨X, 2, none⟩ = some (.slice none 0 0)) (first | (with_reducible exact ⟨e0, e1, e2⟩) | (simp only [World.cell?_drew]; with_reducible exact ⟨y0, y1, y2⟩) | exact ⟨cell_other3 e0 (by show X ≠ w.heap.size; omega), cell_other3 e1 (by show X ≠ w.heap.size; omega), cell_other3 e2 (by show X ≠ w.heap.size; omega)⟩) (first
            | (go_at_call 48; refine (err_any r p i1 0 w6.drew H6.out).mono ?_; rintro e wE ⟨rfl, mE, hwE⟩; have NE := hide (heap_drew (w := w6.drew) hwE N6.out); have XE := hide (heap_drew (w := w6.drew) hwE X6.out); have TE := hide (show Turns (fun j => j = r) w wE by rw [hwE]; exact T6.out.drew.drewN mE); have hDE : wE = w6.drew.drewN mE := hwE; have HDE := hide hDE; clear hwE hDE; have e0 := cell_of_row wE X 0 _ 24 (0, 0) XE.out; have e1 := cell_of_row wE X 1 _ 24 (0, 0) XE.out; have e2 := cell_of_row wE X 2 _ 24 (0, 0) XE.out; have q0 := cell_of_row wE w.heap.size 0 _ 24 (0, 0) NE.out; have q1 := cell_of_row wE w.heap.size 1 _ 24 (0, 0) NE.out; have q2 := cell_of_row wE w.heap.size 2 _ 24 (0, 0) NE.out; have u0 := frozen_of_row wE w.heap.size 0 _ 24 NE.out; have u1 := frozen_of_row wE w.heap.size 1 _ 24 NE.out; have u2 := frozen_of_row wE w.heap.size 2 _ 24 NE.out; simp at e0 e1 e2 q0 q1 q2))
          go_wp2_with fail
          have tF := turns_cell (turns_cell (turns_cell (Turns.refl (fun j => j = w.heap.size) wE) 0 (.int .i64 2)) 1 (.slice ak key.length ck)) 2 (.slice none 0 0)
          refine bodyPost_ret (v := .tuple #[.agg #[.int .i64 2, .slice ak key.length ck, .slice none 0 0], .int .i64 0]) ?_ rfl ?_
          · exact results_cell_tmp Try.results29 _ _ _ _ _ _ _ _ rfl rfl (set3 NE.out) Try.underlying24 rfl info24
          · refine ⟨?_, TE.out.andThen tF (fun k hk e => by omega)⟩
            rw [HRES.out]
            have hbk : Bytes wE (.slice ak key.length ck) key := by rw [HDE.out]; exact HBK6.out
            refine ⟨ak, ck, none, 0, rfl, hbk.turns tF (fun x n c e => by cases e; have := HKK.out x rfl; show ¬ x.block = w.heap.size; omega), Bytes.empty _, fun a e => by have := HKK.out a e; omega, (fun a e => by cases e), i1, hi1, hd1, ?_⟩
            have hE : Rdr wE r p i1 0 := by rw [HDE.out]; exact (H6.out : Rdr w6.drew r p i1 0).drewN mE
            exact hE.keep tF (fun k e => by omega)
    · have hkd : ((z : Int) == 1 || (z : Int) == 2) = false := by
        rw [Bool.or_eq_false_iff, beq_eq_false_iff_ne, beq_eq_false_iff_ne]
        omega
      rw [hkd]
      have hres : rdWrite (p.drop i) = .error 4 := by rw [HDROP.out, rdWrite, if_pos (by rw [HZ.out]; exact hkind)]
      have HRES := hide hres
      clear hres hkd
      go_wp2_with (refine wpList_store_row rfl 24 _ _ rfl _ _ rfl rfl _ _ N3.out ?_ ?_ ?_ ?_; (exact info24); (simp only [List.size_toArray, List.length_cons, List.length_nil]); (simp [Value.oneCell']))
      refine bodyPost_ret (v := .tuple #[.agg #[.int .i64 0, .slice none 0 0, .slice none 0 0], .int .i64 4]) ?_ rfl ?_
      · exact results_cell_tmp Try.results29 _ _ _ _ _ _ _ _ rfl rfl (setRow_heap _ _ _ _ _ _ N3.out) Try.underlying24 rfl info24
      · exact ⟨by rw [HRES.out]; exact ⟨by decide, _, _, _, _, _, _, _, rfl⟩, T3.out.andThen (S' := fun j => j = w.heap.size) ⟨rfl, rfl, rfl, by simp, fun k _ hk => setRow_other _ _ _ _ hk⟩ (fun k hk e => by omega)⟩
  · rw [if_neg hil] at hf
    obtain ⟨rfl, h1⟩ := hf
    have H1 := hide h1
    have hres : rdWrite (p.drop i) = .error 12 := by rw [List.drop_eq_nil_of_le (by omega)]; rfl
    have HRES := hide hres
    clear h1 hres t1
    go_wp2_with fail
    refine (err_any r p i 12 w1 H1.out).mono ?_
    rintro e w2 ⟨rfl, m, hw2⟩
    have N2 : Hid (w2.heap[w.heap.size]? = some (.cells #[.int .i64 0, .slice none 0 0, .slice none 0 0] 24 (0, 0))) := hide (by rw [hw2]; exact N1.out)
    have T2 := hide (show Turns (fun j => j = r) w w2 by rw [hw2]; exact T1.out.drewN m)
    clear hw2
    go_wp2_with (refine wpList_store_row rfl 24 _ _ rfl _ _ rfl rfl _ _ N2.out ?_ ?_ ?_ ?_; (exact info24); (simp only [List.size_toArray, List.length_cons, List.length_nil]); (simp [Value.oneCell']))
    refine bodyPost_ret (v := .tuple #[.agg #[.int .i64 0, .slice none 0 0, .slice none 0 0], .int .i64 12]) ?_ rfl ?_
    · exact results_cell_tmp Try.results29 _ _ _ _ _ _ _ _ rfl rfl (setRow_heap _ _ _ _ _ _ N2.out) Try.underlying24 rfl info24
    · exact ⟨by rw [HRES.out]; exact ⟨by decide, _, _, _, _, _, _, _, rfl⟩, T2.out.andThen (S' := fun j => j = w.heap.size) ⟨rfl, rfl, rfl, by simp, fun k _ hk => setRow_other _ _ _ _ hk⟩ (fun k hk e => by omega)⟩
end Go.Proofs.Ytpdlbepkkfoadaa
