import Derived.Test.YtjnpendihdlgnaaM12
import Derived.Test.YtjnpendihdlgnaaM02
import Derived.LaidEqlPtr
import Derived.Test.YtjnpendihdlgnaaM15
import Derived.Test.YtjnpendihdlgnaaM18
/-
  A merger that New made: made, Left.
-/
namespace Go.Proofs.Ytjnpendihdlgnaa
open Go.RowKit
set_option maxRecDepth 100000
set_option maxHeartbeats 4000000
/-- The first head has the first entry of what is merged. -/
theorem Mg.head {L : List Hd} {h0 : Hd} {y : Tow} {r0 : List Tow} (hu : Up L) (hne : ∀ h, h ∈ L → h.R ≠ []) (h0m : h0 ∈ L) (hy : h0.R = y :: r0) (hmin : ∀ h, h ∈ L → ¬ ltH h h0) : ∃ xs, Mg L (y :: xs) := by
  have hp : L.Perm (L.filter (fun h => cmpE h.top y.e.en = 0) ++ L.filter (fun h => ! decide (cmpE h.top y.e.en = 0))) := (List.filter_append_perm _ L).symm
  have hw : Went y.e.en L ((L.filter (fun h => cmpE h.top y.e.en = 0)).filterMap adv ++ L.filter (fun h => ! decide (cmpE h.top y.e.en = 0))) := ⟨_, _, hp, .refl _, fun h hh => by simpa using (List.mem_filter.1 hh).2⟩
  obtain ⟨xs, hx⟩ := Mg.exist _ _ (Nat.le_refl _) (hu.went hw) (fun h hh => by
    rcases List.mem_append.1 hh with hm | hm
    · obtain ⟨a, _, e⟩ := List.mem_filterMap.1 hm
      exact (adv_some e).choose_spec.2.2
    · exact hne h (List.mem_filter.1 hm).1)
  refine ⟨xs, Mg.step hu h0m hy hmin hw (fun h hh => ?_) hx⟩
  rcases List.mem_append.1 hh with hm | hm
  · obtain ⟨a, ha, e⟩ := List.mem_filterMap.1 hm
    obtain ⟨z, _, _, hz⟩ := adv_some e
    cases e2 : h.R with
    | nil => exact absurd e2 hz
    | cons b t =>
      have := adv_above (hu a (List.mem_filter.1 ha).1) e (by simpa using (List.mem_filter.1 ha).2) b (by rw [e2]; simp)
      rw [top_cons e2]
      have := cmpE_swap y.e.en b.e.en
      omega
  · simpa using (List.mem_filter.1 hm).2
def mcs (p n : Nat) : Array Value := #[.pointer (some ⟨p, 0, none⟩), .slice none 0 0, .int .i64 (n : Nat)]
/-- A merger at p that has told i of A. -/
structure Mr (S : Nat → Prop) (w : World) (p : Nat) (v : Value) (L : List Hd) (A : List Tow) (i : Nat) : Prop where
  hb : HB S w p 1 52 (mcs p (A.length - i)) v L
  heap : Hp.Heap ltH (hf L) L.length
  up : Up L
  go : ∀ ys, Mg L ys → ys = A.drop i
  le : i ≤ A.length
  few : A.length ≤ 1000000
theorem Mr.blk {S : Nat → Prop} {w : World} {p : Nat} {v : Value} {L : List Hd} {A : List Tow} {i : Nat} (h : Mr S w p v L A i) : w.heap[p]? = some (.cells #[.pointer (some ⟨p, 0, none⟩), v, .int .i64 ((A.length - i : Nat) : Int)] 52 (0, 0)) := h.hb.blk
theorem Mr.keep {S S' : Nat → Prop} {w w' : World} {p : Nat} {v : Value} {L : List Hd} {A : List Tow} {i : Nat} (h : Mr S w p v L A i) (tt : Turns S' w w') (h1 : ¬ S' p) (h2 : ∀ k, inRow v k → ¬ S' k) (h3 : ∀ k, S' k → S k) : Mr S w' p v L A i := ⟨h.hb.keep tt h1 h2 h3, h.heap, h.up, h.go, h.le, h.few⟩
theorem Mr.quiet {S : Nat → Prop} {w w' : World} {p : Nat} {v : Value} {L : List Hd} {A : List Tow} {i : Nat} (h : Mr S w p v L A i) (tt : Turns (fun _ => False) w w') : Mr S w' p v L A i := ⟨h.hb.quiet tt, h.heap, h.up, h.go, h.le, h.few⟩
/-- While there are entries left there is a head, and it has the next one. -/
theorem Mr.first {S : Nat → Prop} {w : World} {p : Nat} {v : Value} {L : List Hd} {A : List Tow} {i : Nat} (h : Mr S w p v L A i) (hi : i < A.length) : ∃ h0 T y r, L = h0 :: T ∧ h0.R = y :: r ∧ A[i]? = some y := by
  cases e : L with
  | nil =>
    subst e
    have := congrArg List.length (h.go [] Mg.nil)
    simp at this
    omega
  | cons h0 T =>
    subst e
    obtain ⟨y, r, hy⟩ : ∃ y r, h0.R = y :: r := by
      have := (h.hb.each h0 (by simp)).1.ne
      cases e : h0.R with
      | nil => exact absurd e this
      | cons z r => exact ⟨z, r, rfl⟩
    obtain ⟨xs, hx⟩ := Mg.head h.up (fun x hx => (h.hb.each x hx).1.ne) (by simp) hy (heap_first rfl h.heap)
    have e := congrArg (·[0]?) (h.go _ hx)
    simp at e
    exact ⟨h0, T, y, r, rfl, hy, e.symm⟩
theorem made_mr (p n : Nat) (v : Value) (w : World) (h : w.heap[p]? = some (.cells #[.pointer (some ⟨p, 0, none⟩), v, .int .i64 (n : Nat)] 52 (0, 0))) : Calls Try.prog 46 #[.pointer (some ⟨p, 0, none⟩)] w fun e w' => e = .returned (.bool true) ∧ w' = w := by
  have c0 := cell_of_row w p 0 _ 52 (0, 0) h
  obtain ⟨j, hj⟩ : ∃ j, Try.prog.info? 52 = some j := Option.isSome_iff_exists.1 (by kernel_rfl)
  have q1 : ∀ w, (binOp .eql 41 (.pointer (some ⟨p, 0, none⟩)) (.pointer (some ⟨p, 0, none⟩))).run Try.prog w = .ok (.bool true) w := fun w => run_eql_ptr_same w _ Try.underlying41 hj
  have q2 : ∀ w, (binOp .neq 41 (.pointer (some ⟨p, 0, none⟩)) (.pointer none)).run Try.prog w = .ok (.bool true) w := fun _ => by kernel_rfl
  go_enter Try.func46, Try.ntmps46
  go_wp2_with fail
  go_ret
  exact ⟨rfl, rfl⟩
theorem left_mr (p n : Nat) (v : Value) (w : World) (h : w.heap[p]? = some (.cells #[.pointer (some ⟨p, 0, none⟩), v, .int .i64 (n : Nat)] 52 (0, 0))) : Calls Try.prog 24 #[.pointer (some ⟨p, 0, none⟩)] w fun e w' => e = .returned (.int .i64 (n : Nat)) ∧ w' = w := by
  have c2 := cell_of_row w p 2 _ 52 (0, 0) h
  have MD := hide (made_mr p n v w h)
  clear h
  go_enter Try.func24, Try.ntmps24
  go_wp2_with fail
  refine MD.out.mono ?_
  rintro e w1 ⟨rfl, rfl⟩
  go_wp2_with fail
  go_ret
  exact ⟨rfl, rfl⟩
end Go.Proofs.Ytjnpendihdlgnaa

/-
  A merger that New made: Next.
-/
namespace Go.Proofs.Ytjnpendihdlgnaa
open Go.RowKit
set_option maxRecDepth 100000
set_option maxHeartbeats 4000000
/-- The number of those left turned. -/
theorem HB.left {S : Nat → Prop} {w w' : World} {p n m : Nat} {v : Value} {L : List Hd} (h : HB S w p 1 52 (mcs p n) v L) (tt : Turns (fun k => k = p) w w') (hb : w'.heap[p]? = some (.cells #[.pointer (some ⟨p, 0, none⟩), v, .int .i64 (m : Nat)] 52 (0, 0))) : HB S w' p 1 52 (mcs p m) v L where
  blk := hb
  at' := h.at'
  sp := h.sp
  up := fun k hk => h.up k (Nat.le_trans tt.size hk)
  row := by
    rcases h.row with e | ⟨g, c, e, hr, hg, hs⟩
    · exact .inl e
    · exact .inr ⟨g, c, e, hr.keep tt (fun x => hg x), hg, hs⟩
  each := fun x hx => ⟨(h.each x hx).1.keep tt fun q hq hs => (h.each x hx).2 q hq (hs ▸ h.sp), (h.each x hx).2⟩
  len := h.len
theorem next_mr (S : Nat → Prop) (p : Nat) (v : Value) (L : List Hd) (A : List Tow) (i : Nat) (y : Tow) (w : World) (h : Mr S w p v L A i) (hy : A[i]? = some y) :
    Calls Try.prog 25 #[.pointer (some ⟨p, 0, none⟩)] w fun e w' => e = .returned (.tuple #[y.agg, .bool true]) ∧ ∃ v' L', Mr S w' p v' L' A (i + 1) ∧ Moved p v v' w w' := by
  have hi : i < A.length := (List.getElem?_eq_some_iff.1 hy).1
  obtain ⟨h0, T, y', r, rfl, hR, hy'⟩ := h.first hi
  obtain rfl : y' = y := by rw [hy'] at hy; exact Option.some.inj hy
  have t0 := (Turns.refl (fun _ => False) w).alloc (.cells #[.slice none 0 0, .int .u64 0, .int .i64 0, .slice none 0 0] 25)
  have h' := h.quiet t0
  have H0 := hide h'
  have HW := hide h
  have HR := hide hR
  have HI := hide hi
  have HY := hide hy'
  have T0 := hide t0
  have N0 := hide (heap_alloc_new w (.cells #[.slice none 0 0, .int .u64 0, .int .i64 0, .slice none 0 0] 25))
  have S0 := hide (show (w.alloc (.cells #[.slice none 0 0, .int .u64 0, .int .i64 0, .slice none 0 0] 25)).heap.size = w.heap.size + 1 by simp)
  have hbl := h'.blk
  have hpl := lt_of_heap h.blk
  obtain ⟨n, hn⟩ : ∃ n, A.length - i = n + 1 := ⟨A.length - i - 1, by omega⟩
  have hnx : (n : Int) ≤ 1000000 := by have := h.few; omega
  have HN := hide hn
  have HPL := hide hpl
  rw [hn] at hbl
  clear h hy hy' hi hR h' t0 hn hpl
  go_enter Try.func25, Try.ntmps25
  go_wp2_with fail
  generalize hK : w.heap.size = K at *
  generalize w.alloc (.cells #[.slice none 0 0, .int .u64 0, .int .i64 0, .slice none 0 0] 25) = w1 at *
  have LF := hide (left_mr p (n + 1) v w1 hbl)
  have HBL := hide hbl
  clear hbl
  refine LF.out.mono ?_
  rintro e w2 ⟨rfl, rfl⟩
  have c2 := cell_of_row w2 p 2 _ 52 (0, 0) HBL.out
  have f2 := frozen_of_row w2 p 2 _ 52 HBL.out
  go_wp2_with fail
  have k1 := (Tick.refl HBL.out).set 2 (.int .i64 (n : Nat))
  have t1 := Turns.of_tick k1
  have hB1 := H0.out.hb.left t1 k1.1
  have NX := hide (next_any S p 1 52 (mcs p n) v T h0 y' r _ hB1 H0.out.heap H0.out.up HR.out)
  have hn1 := t1.heap N0.out (by have := HPL.out; omega)
  have T1 := hide ((T0.out.mono (S' := fun k => k = p ∨ inRow v k) fun _ _ x => x.elim).trans (t1.mono fun _ _ x => .inl x))
  have N1 := hide hn1
  have hin0 : ∀ k, inRow v k → k < K ∧ k ≠ p := fun k ⟨n', c', e⟩ => by
    obtain ⟨g0, c0, hv0, hR, hgp, _⟩ := HW.out.hb.full (by simp)
    rw [hv0] at e; cases e; rw [← hK]; exact ⟨hR.lt, hgp⟩
  have IN0 := hide hin0
  have Z1 := hide (show K < (w2.setCell ⟨p, 2, none⟩ (.int .i64 (n : Nat))).heap.size by have := S0.out; have := t1.size; omega)
  have UPK := hide (show S K from HW.out.hb.up K (by omega))
  clear k1 t1 hB1 hn1 c2 f2 hin0
  generalize w2.setCell ⟨p, 2, none⟩ (.int .i64 (n : Nat)) = w3 at *
  refine NX.out.mono ?_
  rintro e w4 ⟨v', L', rfl, hB, hH, hW, hD, _, hM⟩
  have hn4 := hM.block N1.out (by have := HPL.out; omega) (fun x => by have := (IN0.out _ x).1; omega)
  have BB := hide hB
  have HH := hide hH
  have WW := hide hW
  have DD := hide hD
  have MM := hide hM
  have N4 := hide hn4
  clear hB hH hW hD hM hn4
  have y0 := frozen_of_row w4 K 0 _ 25 N4.out
  have y1 := frozen_of_row w4 K 1 _ 25 N4.out
  have y2 := frozen_of_row w4 K 2 _ 25 N4.out
  have y3 := frozen_of_row w4 K 3 _ 25 N4.out
  have x0 := cell_of_row w4 K 0 _ 25 (0, 0) N4.out
  have x1 := cell_of_row w4 K 1 _ 25 (0, 0) N4.out
  have x2 := cell_of_row w4 K 2 _ 25 (0, 0) N4.out
  have x3 := cell_of_row w4 K 3 _ 25 (0, 0) N4.out
  go_wp2_with fail
  have k4 := ((((Tick.refl N4.out).set 0 (.slice y'.ka y'.e.key.length y'.kc)).set 1 (.int .u64 (y'.e.seq : Nat))).set 2 (.int .i64 y'.e.kind)).set 3 (.slice y'.va y'.e.val.length y'.vc)
  have tk := Turns.of_tick k4
  have hin : ∀ k, inRow v' k → ¬ k = K := fun k hk e => by
    rcases MM.out.2 k hk with x | x
    · have := (IN0.out k x).1; omega
    · have := Z1.out; omega
  have hB := BB.out.keep tk (by have := HPL.out; omega) hin (fun k e => by rw [e]; exact UPK.out)
  refine bodyPost_ret (v := .tuple #[.agg #[.slice y'.ka y'.e.key.length y'.kc, .int .u64 (y'.e.seq : Nat), .int .i64 y'.e.kind, .slice y'.va y'.e.val.length y'.vc], .bool true]) ?_ rfl ?_
  · exact results_cell_tmp Try.results25 _ _ _ _ _ _ _ _ rfl rfl k4.1 Try.underlying25 rfl info29
  · refine ⟨rfl, v', L', ⟨?_, HH.out, HW.out.up.went WW.out, fun ys hy => ?_, HI.out, HW.out.few⟩, ?_, fun k hk => ?_⟩
    · rw [show A.length - (i + 1) = n by have := HN.out; omega]
      exact hB
    · have e := HW.out.go _ (Mg.step HW.out.up (by simp) HR.out (heap_first rfl HW.out.heap) WW.out DD.out hy)
      have := congrArg List.tail e
      simpa using this
    · exact (T1.out.trans MM.out.1).andThen tk fun k hk e => by omega
    · rcases MM.out.2 k hk with x | x
      · exact .inl x
      · have := Z1.out; exact .inr (by omega)
/-- Peek. -/
theorem peek_mr (S : Nat → Prop) (p : Nat) (v : Value) (L : List Hd) (A : List Tow) (i : Nat) (y : Tow) (w : World) (h : Mr S w p v L A i) (hy : A[i]? = some y) (hf : y.e.key.length ≤ 1000000 ∧ y.e.val.length ≤ 1000000) :
    Calls Try.prog 22 #[.pointer (some ⟨p, 0, none⟩)] w fun e w' => ∃ ka kc va vc, e = .returned (.tuple #[.agg #[.slice ka y.e.key.length kc, .int .u64 (y.e.seq : Nat), .int .i64 y.e.kind, .slice va y.e.val.length vc], .bool true]) ∧ Bytes w' (.slice ka y.e.key.length kc) y.e.key ∧ Bytes w' (.slice va y.e.val.length vc) y.e.val ∧ Below w.heap.size w w' := by
  have hi : i < A.length := (List.getElem?_eq_some_iff.1 hy).1
  obtain ⟨h0, T, y', r, rfl, hR, hy'⟩ := h.first hi
  obtain rfl : y' = y := by rw [hy'] at hy; exact Option.some.inj hy
  have t0 := (Turns.refl (fun _ => False) w).alloc (.cells #[.slice none 0 0, .int .u64 0, .int .i64 0, .slice none 0 0] 25)
  have h' := h.quiet t0
  have H0 := hide h'
  have HR := hide hR
  have T0 := hide t0
  have HF := hide hf
  have N0 := hide (heap_alloc_new w (.cells #[.slice none 0 0, .int .u64 0, .int .i64 0, .slice none 0 0] 25))
  have hbl := h'.blk
  obtain ⟨n, hn⟩ : ∃ n, A.length - i = n + 1 := ⟨A.length - i - 1, by omega⟩
  have hnx : (n : Int) ≤ 1000000 := by have := h.few; omega
  rw [hn] at hbl
  clear h hy hy' hi hR h' t0 hn hf
  go_enter Try.func22, Try.ntmps22
  go_wp2_with fail
  generalize hK : w.heap.size = K at *
  generalize w.alloc (.cells #[.slice none 0 0, .int .u64 0, .int .i64 0, .slice none 0 0] 25) = w1 at *
  have LF := hide (left_mr p (n + 1) v w1 hbl)
  have HBL := hide hbl
  clear hbl
  refine LF.out.mono ?_
  rintro e w2 ⟨rfl, rfl⟩
  have c1 := cell_of_row w2 p 1 _ 52 (0, 0) HBL.out
  obtain ⟨g, c, hv, hrow, hgp, _⟩ := H0.out.hb.full (by simp)
  have hx := (H0.out.hb.each h0 (by simp)).1
  have FI := hide (first_any g c _ (h0 :: T) h0 y' r w2 hrow rfl rfl hx HR.out)
  have BY := hide (hd_cells hx HR.out).2
  subst hv
  clear hrow hgp hx
  simp only [List.length_cons] at *
  generalize T.length + 1 = m at *
  go_wp2_with fail
  refine FI.out.mono ?_
  rintro e w3 ⟨rfl, b3⟩
  have t3 := Turns.of_below b3 (fun _ => False)
  have CL := hide (cloneTE_any y'.ka y'.va y'.e.key.length y'.kc y'.e.val.length y'.vc y'.e.seq y'.e.kind y'.e.key y'.e.val w3 (BY.out.1.quiet t3) (BY.out.2.quiet t3) HF.out.1 HF.out.2)
  have T3 := hide (T0.out.trans t3)
  have N3 := hide (t3.heap N0.out (fun x => x))
  clear t3 b3
  go_wp2_with fail
  refine CL.out.mono ?_
  rintro e w4 ⟨ka, kc, va, vc, rfl, hk, hv, hka, hva, b4⟩
  have t4 := Turns.of_below b4 (fun _ => False)
  have N4 := hide (t4.heap N3.out (fun x => x))
  have T4 := hide (T3.out.trans t4)
  have KV := hide (And.intro hk hv)
  have HKA := hide (show ∀ x : Addr, ka = some x → ¬ x.block = K from fun x e h => by have := (hka x e).1; have := lt_of_heap N3.out; omega)
  have HVA := hide (show ∀ x : Addr, va = some x → ¬ x.block = K from fun x e h => by have := (hva x e).1; have := lt_of_heap N3.out; omega)
  clear hk hv hka hva t4 b4
  have y0 := frozen_of_row w4 K 0 _ 25 N4.out
  have y1 := frozen_of_row w4 K 1 _ 25 N4.out
  have y2 := frozen_of_row w4 K 2 _ 25 N4.out
  have y3 := frozen_of_row w4 K 3 _ 25 N4.out
  have x0 := cell_of_row w4 K 0 _ 25 (0, 0) N4.out
  have x1 := cell_of_row w4 K 1 _ 25 (0, 0) N4.out
  have x2 := cell_of_row w4 K 2 _ 25 (0, 0) N4.out
  have x3 := cell_of_row w4 K 3 _ 25 (0, 0) N4.out
  go_wp2_with fail
  have k4 := ((((Tick.refl N4.out).set 0 (.slice ka y'.e.key.length kc)).set 1 (.int .u64 (y'.e.seq : Nat))).set 2 (.int .i64 y'.e.kind)).set 3 (.slice va y'.e.val.length vc)
  have tk := Turns.of_tick k4
  refine bodyPost_ret (v := .tuple #[.agg #[.slice ka y'.e.key.length kc, .int .u64 (y'.e.seq : Nat), .int .i64 y'.e.kind, .slice va y'.e.val.length vc], .bool true]) ?_ rfl ?_
  · exact results_cell_tmp Try.results22 _ _ _ _ _ _ _ _ rfl rfl k4.1 Try.underlying25 rfl info29
  · exact ⟨ka, kc, va, vc, rfl, bytes_keep KV.out.1 tk (fun x e => HKA.out x e), bytes_keep KV.out.2 tk (fun x e => HVA.out x e), ((T4.out.mono (S' := fun k => K ≤ k) fun _ _ x => x.elim).trans (tk.mono fun k _ e => by omega)).below (B := w.heap.size) (by omega) (fun k hk => by omega)⟩
end Go.Proofs.Ytjnpendihdlgnaa

/-
  New.
-/
namespace Go.Proofs.Ytjnpendihdlgnaa
open Go.RowKit Go.Shelf
set_option maxRecDepth 100000
set_option maxHeartbeats 4000000
theorem Owned.uses {w : World} {B : Nat} {v : Value} {ps : List Rw} (h : Owned w B v ps) {hd : Hd} (hh : hd ∈ hds ps) {q : Nat} (hq : hd.uses q) : B ≤ q ∧ q < w.heap.size := by
  obtain ⟨i, x, hx, e⟩ := mem_hds.1 hh
  obtain ⟨h1, h2, _⟩ := h x (List.mem_of_getElem? hx)
  obtain ⟨xa, xc, xR⟩ := x
  unfold hdOf at e
  split at e
  · next ad y r e1 e2 =>
    simp only at e1 e2
    subst e1 e2
    cases e
    rcases hq with hq | ⟨t, ht, hl⟩
    · simp only at hq
      subst hq
      rcases h1 with ⟨h1, _⟩ | ⟨g, c, n, h3, _, _, h4, cs, h5, _⟩
      · cases h1
      · simp only [Rw.v] at h3
        cases h3
        exact ⟨h4, lt_of_heap h5⟩
    · refine (h2 t ht).2.2 q ?_
      rcases hl with ⟨a, e, e2, _⟩ | ⟨a, e, e2, _⟩
      · exact .inl ⟨a, e, e2⟩
      · exact .inr ⟨a, e, e2⟩
  · cases e
/-- The heads in a merger. -/
theorem HB.boxM {S : Nat → Prop} {w w' : World} {p0 o t p n : Nat} {cs : Array Value} {v : Value} {L : List Hd} (h : HB S w p0 o t cs v L) (tt : Turns (fun _ => False) w w') (hp : w'.heap[p]? = some (.cells #[.pointer (some ⟨p, 0, none⟩), v, .int .i64 (n : Nat)] 52 (0, 0))) (hs : w.heap.size ≤ p) : HB S w' p 1 52 (mcs p n) v L := by
  refine ⟨hp, by show 1 < 3; omega, h.up _ hs, fun k hk => h.up k (Nat.le_trans tt.size hk), ?_, fun x hx => ⟨(h.each x hx).1.quiet tt, (h.each x hx).2⟩, h.len⟩
  rcases h.row with e | ⟨g, c, e, h1, h2, h3⟩
  · exact .inl e
  · exact .inr ⟨g, c, e, h1.keep tt (fun x => x), by have := h1.lt; omega, h3⟩
/-- What New answers, of rows in order. -/
def NewOk (B : Nat) (w' : World) (rs : List Rw) (p : Nat) : Prop :=
  ∃ (N : Nat) (v : Value) (L : List Hd) (A : List Tow), Mr (fun k => k < B ∨ N ≤ k) w' p v L A 0 ∧ B ≤ p ∧ (∀ k, inRow v k → B ≤ k) ∧ MgE (entR rs) (A.map (·.e))
theorem new_any (a : Option Addr) (n c : Nat) (rs : List Rw) (w : World) (h : RowsIn w a rs) (hn : n = rs.length) (hg : Good rs) :
    Calls Try.prog 21 #[.slice a n c] w fun e w' => Below w.heap.size w w' ∧ ((eachOrd rs = false ∧ e = .returned (.tuple #[.pointer none, .int .i64 2])) ∨ (eachOrd rs = true ∧ ∃ p : Nat, e = .returned (.tuple #[.pointer (some ⟨p, 0, none⟩), .int .i64 0]) ∧ NewOk w.heap.size w' rs p)) := by
  have hmx : n ≤ 1000000 := by have := hg.rows; omega
  have HC := hide (checkEach_any a n c rs w h hn hmx)
  have H0 := hide h
  have HN := hide hn
  have HG := hide hg
  clear h hn hg
  cases ho : eachOrd rs with
  | false =>
    rw [ho] at HC
    clear ho
    go_enter Try.func21, Try.ntmps21
    go_wp2_with fail
    refine HC.out.mono ?_
    rintro e w1 ⟨rfl, hb⟩
    rw [show ordE false = 2 from rfl]
    go_wp2_with fail
    go_ret2
    exact ⟨hb, .inl ⟨by first | rfl | trivial, rfl⟩⟩
  | true =>
    rw [ho] at HC
    have HO := hide ho
    clear ho
    refine (callsIn_wide (n := 5)).1 ?_
    refine callsIn_of_wp_marks Try.func21 rfl trivial ?_ rfl
    simp only [Try.ntmps21, List.size_toArray, List.length_cons, List.length_nil, Nat.reduceAdd, Nat.reduceSub, Array.replicate_succ, Array.replicate_zero, List.push_toArray, List.append_toArray, List.nil_append, List.cons_append]
    gi_wp2
    refine ⟨trivial, ?_⟩
    refine (callsIn_wide.2 HC.out).mono ?_
    rintro e w1 ⟨rfl, hb⟩
    rw [show ordE true = 0 from rfl]
    have t1 := Turns.of_below hb (fun _ => False)
    have CE := hide (cloneEach_any a n c rs w1 (H0.out.quiet t1) HN.out hmx (fun x hx y hy => HG.out.size y (List.mem_flatMap.2 ⟨x, hx, hy⟩)))
    have T1 := hide t1
    clear t1 hb HC
    gi_wp2
    refine ⟨trivial, ?_⟩
    refine (callsIn_wide.2 CE.out).mono ?_
    rintro e w2 ⟨v2, ps, rfl, hR2, hO2, hE2, b2⟩
    have hsum : sumR ps = sumR rs := by rw [entR_sum, entR_sum, hE2]
    have hlen : ps.length = rs.length := by
      have := congrArg List.length hE2
      simpa [entR] using this
    have hps : ∀ x, x ∈ ps → x.R.length ≤ 1000000 := fun x hx => by
      have h1 : x.R.length ≤ sumR ps := le_sum (List.mem_map.2 ⟨x, hx, rfl⟩)
      have := HG.out.all
      omega
    obtain ⟨a2, c2, rfl, hrows2⟩ := hO2.rows hR2 hps
    have HD := hide (headsOf_any a2 ps.length c2 ps w2 hrows2 rfl (by have := HG.out.rows; omega))
    have T2 := hide (T1.out.trans (Turns.of_below b2 (fun _ => False)))
    have RI2 := hide hrows2
    have O2 := hide hO2
    have E2 := hide hE2
    have SM := hide hsum
    have SZ2 := hide (show w.heap.size ≤ w1.heap.size ∧ w1.heap.size ≤ w2.heap.size from ⟨T1.out.size, b2.size⟩)
    clear hsum hlen hps hrows2 hR2 hO2 hE2 b2
    gi_wp2
    refine ⟨trivial, ?_⟩
    refine (callsIn_wide.2 HD.out).mono ?_
    rintro e w3 ⟨v3, L, p0, rfl, hB3, hP3, hH3, b3⟩
    have T3 := hide (T2.out.trans (Turns.of_below b3 (fun _ => False)))
    have B3 := hide hB3
    have P3 := hide hP3
    have H3 := hide hH3
    have SZ3 := hide b3.size
    obtain ⟨a3, n3, c3, hv3⟩ : ∃ a n c, v3 = .slice a n c := by
      rcases hB3.row with ⟨e, _⟩ | ⟨g, c, e, _⟩
      · exact ⟨_, _, _, e⟩
      · exact ⟨_, _, _, e⟩
    subst hv3
    clear hB3 hP3 hH3 b3
    have t4 : Turns (fun _ => False) w3 ((w3.alloc (.cells #[.pointer (some ⟨w3.heap.size, 0, none⟩), .slice a3 n3 c3, .int .i64 0] 52)).alloc (.cells #[.pointer (some ⟨w3.heap.size, 0, none⟩)] 41)) := ((Turns.refl _ w3).alloc _).alloc _
    have NP := hide (((Turns.refl (fun _ => False) (w3.alloc (.cells #[.pointer (some ⟨w3.heap.size, 0, none⟩), .slice a3 n3 c3, .int .i64 0] 52))).alloc (.cells #[.pointer (some ⟨w3.heap.size, 0, none⟩)] 41)).heap (heap_alloc_new w3 (.cells #[.pointer (some ⟨w3.heap.size, 0, none⟩), .slice a3 n3 c3, .int .i64 0] 52)) (fun x => x))
    have nv := heap_alloc_new (w3.alloc (.cells #[.pointer (some ⟨w3.heap.size, 0, none⟩), .slice a3 n3 c3, .int .i64 0] 52)) (.cells #[.pointer (some ⟨w3.heap.size, 0, none⟩)] 41)
    rw [World.size_alloc] at nv
    have NV := hide nv
    have S4 := hide (show ((w3.alloc (.cells #[.pointer (some ⟨w3.heap.size, 0, none⟩), .slice a3 n3 c3, .int .i64 0] 52)).alloc (.cells #[.pointer (some ⟨w3.heap.size, 0, none⟩)] 41)).heap.size = w3.heap.size + 2 by simp)
    have T4 := hide t4
    clear nv t4
    gi_wp2
    generalize (w3.alloc (.cells #[.pointer (some ⟨w3.heap.size, 0, none⟩), .slice a3 n3 c3, .int .i64 0] 52)).alloc (.cells #[.pointer (some ⟨w3.heap.size, 0, none⟩)] 41) = w4 at *
    generalize hp : w3.heap.size = p at *
    refine ⟨trivial, ?_⟩
    refine (callsIn_wide.2 (merged_any a n c w4)).mono ?_
    rintro e w5 ⟨rfl, hw5⟩
    have t5 : Turns (fun _ => False) w4 w5 := by rw [hw5]; exact (Turns.refl _ w4).alloc _
    have hcell : w5.cell? ⟨w4.heap.size, 0, none⟩ = some (.slice a n c) := by rw [hw5]; exact cell_of_row _ _ 0 _ 28 (0, 0) (heap_alloc_new w4 _)
    have tA := (T3.out.trans T4.out).trans t5
    have hr5 := H0.out.quiet tA
    have SEQ := hide (merged_seqB 4 w4.heap.size (by decide) a n c rs HN.out hmx (ord_up HO.out) w5 hr5 hcell w.heap.size tA.size (fun _ hh _ hq => (hds_mem H0.out (by rw [← HN.out]; exact hmx) hh).1.lt hq))
    have NP5 := hide (t5.heap NP.out (fun x => x))
    have NV5 := hide (t5.heap NV.out (fun x => x))
    have T45 := hide (T4.out.trans t5)
    have TA := hide tA
    have S5 := hide (show p + 1 < w5.heap.size by have := S4.out; have := t5.size; omega)
    clear t5 hcell tA hr5 hw5
    gi_wp2
    have hpw : w.heap.size ≤ p := by have := SZ2.out; have := SZ3.out; omega
    have hp5 := S5.out
    refine range_x (w := w5) (n := 5) rfl (by decide) (gf := 49) (lb := #[.pointer (some ⟨w4.heap.size, 0, none⟩)]) rfl trivial enters49 (hseq := SEQ.out) KpM.trans (fun W l o o' hl ho hc => KpM.put W l o o' (by omega) ho hc) (Below.refl _ _) (fun _ => rfl)
      (fun (pre : List (El rs)) W => W.heap[p]? = some (.cells #[.pointer (some ⟨p, 0, none⟩), .slice a3 n3 c3, .int .i64 (pre.length : Nat)] 52 (0, 0)) ∧ Turns (fun k => k = p ∨ w5.heap.size ≤ k) w5 W ∧ pre.length ≤ tot (hds rs))
      (fun _ _ _ => False)
      (fun s A A' ⟨h1, h2, h3⟩ tt => ⟨tt.heap h1 (fun x => by have := x.1; omega), h2.trans ((loose_low tt (Nat.le_refl _)).mono fun _ _ x => .inr x), h3⟩)
      (fun _ _ _ _ h _ => h)
      ⟨NP5.out, Turns.refl _ _, Nat.zero_le _⟩
      (fun (x : El rs) a' W => a' = { tmps := #[.slice a n c, undef, .pointer none, .int .i64 0, .int .i64 0, .pointer (some ⟨p + 1, 0, none⟩), .slice a n c, .int .i64 0, .int .i64 0, .bool false, undef, .slice a n c, .slice a2 ps.length c2, .slice a3 n3 c3, .agg #[.pointer none, .slice a3 n3 c3, .int .i64 0], .pointer (some ⟨p, 0, none⟩), .pointer (some ⟨p, 0, none⟩), .pointer (some ⟨p, 0, none⟩), .pointer (some ⟨p, 0, none⟩), .pointer (some ⟨p, 0, none⟩), .slice a n c, .func (.func 49) #[] #[.pointer (some ⟨w4.heap.size, 0, none⟩)], x.val.agg, undef, undef, undef, undef, undef, undef, undef, undef], defers := [] })
      (fun _ _ _ _ _ h _ => h) ?assign ?body ?done ?stop
    case assign =>
      rintro l pre x W K hI hK
      gi_wp2
      exact hK _ _ (KeepsFrom.refl _ _) ((Turns.refl _ W)) hI (by simp)
    case body =>
      rintro l pre x a' W hl ⟨r, hr⟩ ⟨h1, h2, _⟩ rfl hlt
      have hpre : (pre.length : Int) ≤ 1000000 := by have := tot_hds rs; have := HG.out.all; omega
      have cv : W.cell? ⟨p + 1, 0, none⟩ = some (.pointer (some ⟨p, 0, none⟩)) := cell_of_row W _ 0 _ 41 (0, 0) (h2.heap NV5.out (by omega))
      have cl : W.cell? ⟨p, 2, none⟩ = some (.int .i64 (pre.length : Nat)) := cell_of_row W p 2 _ 52 (0, 0) h1
      have f2 := frozen_of_row W p 2 _ 52 h1
      have k1 := (Tick.refl h1).set 2 (.int .i64 ((pre.length : Int) + 1))
      have t1 := Turns.of_tick k1
      have H1 := hide h1
      have FIN := hide (show (∀ B, KeepsFrom B W (W.setCell ⟨p, 2, none⟩ (.int .i64 ((pre.length : Int) + 1)))) ∧ KpM w.heap.size W (W.setCell ⟨p, 2, none⟩ (.int .i64 ((pre.length : Int) + 1))) ∧ (W.setCell ⟨p, 2, none⟩ (.int .i64 ((pre.length : Int) + 1))).heap[p]? = some (.cells #[.pointer (some ⟨p, 0, none⟩), .slice a3 n3 c3, .int .i64 ((pre ++ [x]).length : Nat)] 52 (0, 0)) ∧ Turns (fun k => k = p ∨ w5.heap.size ≤ k) w5 (W.setCell ⟨p, 2, none⟩ (.int .i64 ((pre.length : Int) + 1))) ∧ (pre ++ [x]).length ≤ tot (hds rs) from by
        refine ⟨fun B => (KeepsOthers.setCell _ _ _).from B, t1.mono fun k _ e => ?_, ?_, h2.trans (t1.mono fun _ _ x => .inl x), by rw [List.length_append]; simp; omega⟩
        · subst e
          exact ⟨hpw, fun ⟨cs, t, fr, h3, h4⟩ => by rw [H1.out] at h4; cases h4; exact h3.elim (by decide) (by decide)⟩
        · rw [k1.1, List.length_append]
          simp)
      clear h1 h2 k1 t1
      generalize x.val.agg = ag
      generalize pre.length = pl at *
      have hwr : IntKind.i64.wrap ((pl : Int) + 1) = (pl : Int) + 1 := wrapI _ (by omega) (by omega)
      have HWR := hide hwr
      clear hlt hr hwr
      gi_wp2
      try (rw [Oper.semAt_some _ _ _ (fun c h => by cases h)]; simp only [execOp, Act.eval]; go_simp; gi_wp2)
      try (rw [Oper.semAt_some _ _ _ (fun c h => by cases h)]; simp only [execOp, Act.eval]; go_simp; gi_wp2)
      try (rw [Oper.semAt_some _ _ _ (fun c h => by cases h)]; simp only [execOp, Act.eval]; go_simp; gi_wp2)
      try (rw [Oper.semAt_some _ _ _ (fun c h => by cases h)]; simp only [execOp, Act.eval]; go_simp; gi_wp2)
      try (rw [Oper.semAt_some _ _ _ (fun c h => by cases h)]; simp only [execOp, Act.eval]; go_simp; gi_wp2)
      try (rw [Oper.semAt_some _ _ _ (fun c h => by cases h)]; simp only [execOp, Act.eval]; go_simp; gi_wp2)
      try (rw [Oper.semAt_some _ _ _ (fun c h => by cases h)]; simp only [execOp, Act.eval]; go_simp; gi_wp2)
      try (rw [Oper.semAt_some _ _ _ (fun c h => by cases h)]; simp only [execOp, Act.eval]; go_simp; gi_wp2)
      rw [HWR.out]
      exact ⟨FIN.out.1 _, FIN.out.2⟩
    case done =>
      rintro D xs W hD hS ⟨h1, h2, h3⟩ hK
      have cv : W.cell? ⟨p + 1, 0, none⟩ = some (.pointer (some ⟨p, 0, none⟩)) := cell_of_row W _ 0 _ 41 (0, 0) (h2.heap NV5.out (by omega))
      have HK := hide hK
      have tD := turns_put (.deferred none) hK
      have hpD := tD.heap h1 (by omega)
      have t6 := h2.trans (tD.mono (S' := fun k => k = p ∨ w5.heap.size ≤ k) fun k _ e => .inr (by omega))
      have H1 := hide hpD
      have T6 := hide t6
      have HS := hide hS
      clear h1 h2 tD hpD t6
      gi_wp2
      refine ⟨by simp, .inl ⟨_, _, rfl, run_takeDeferred HK.out, ?_⟩⟩
      have hop : eachOrd ps = true := by rw [eachOrd_entR, E2.out, ← eachOrd_entR]; exact HO.out
      have hup : Up L := fun h hh => by
        obtain ⟨i, x, hi, hR, _⟩ := hds_is (P3.out.mem_iff.1 hh)
        rw [hR]
        exact ord_up hop i x hi
      obtain ⟨A, hA⟩ := Mg.exist _ L (Nat.le_refl _) hup (fun h hh => (B3.out.each h hh).1.ne)
      have hAp : Mg (hds ps) A := hA.perm fun x => P3.out.mem_iff
      have hAe := hAp.ents RI2.out
      rw [E2.out] at hAe
      have hlx := congrArg List.length (MgE.uniq (entR_up HO.out) hAe (HS.out.ents H0.out))
      simp only [List.length_map, valsOf] at hlx
      have hmr : Mr (fun k => k < w.heap.size ∨ w2.heap.size ≤ k) (W.putObj D (.deferred none)) p (.slice a3 n3 c3) L A 0 := by
        have hbl : w5.heap[p]? = some (.cells #[.pointer (some ⟨p, 0, none⟩), .slice a3 n3 c3, .int .i64 ((0 : Nat) : Int)] 52 (0, 0)) := NP5.out
        have hb5 := (B3.out.boxM T45.out hbl (by omega)).wide (S' := fun k => k < w.heap.size ∨ w2.heap.size ≤ k) (fun k hk => .inr hk) (fun x hx q hq hs => by
          have := O2.out.uses (P3.out.mem_iff.1 hx) hq
          have := SZ2.out
          omega)
        have hrow : ∀ k, inRow (.slice a3 n3 c3) k → ¬ (k = p ∨ w5.heap.size ≤ k) := fun k hk => by
          obtain ⟨n', c', e⟩ := hk
          rcases hb5.row with ⟨e1, _⟩ | ⟨g, c1, e1, h5, h6, _⟩
          · rw [e1] at e; cases e
          · rw [e1] at e
            cases e
            have := h5.lt
            omega
        have hH1 := H1.out
        rw [hlx.symm] at hH1
        refine ⟨⟨hH1, by show 1 < 3; omega, .inr (by have := SZ3.out; omega), fun k hk => .inr ?_, ?_, fun x hx => ⟨(hb5.each x hx).1.keep T6.out fun q hq hs => ?_, (hb5.each x hx).2⟩, hb5.len⟩, H3.out, hup, fun ys hy => ?_, Nat.zero_le _, ?_⟩
        · have := T6.out.size; have := SZ3.out; omega
        · rcases hb5.row with e | ⟨g, c1, e1, h5, h6, h7⟩
          · exact .inl e
          · exact .inr ⟨g, c1, e1, h5.keep T6.out (hrow g ⟨_, _, e1⟩), h6, h7⟩
        · have := O2.out.uses (P3.out.mem_iff.1 hx) hq
          have := SZ3.out
          omega
        · exact Mg.uniq hup (fun h h' hh hh' e => hds_no h h' (P3.out.mem_iff.1 hh) (P3.out.mem_iff.1 hh') e) hy hA
        · have := tot_hds rs; have := HG.out.all; omega
      refine ⟨_, results_tmp2 rfl _ _ _, ((TA.out.mono (S' := fun k => k = p ∨ w5.heap.size ≤ k) fun _ _ x => x.elim).trans T6.out).below (Nat.le_refl _) (fun k hk => by have := TA.out.size; omega), .inr ⟨by first | rfl | trivial, p, rfl, w2.heap.size, _, L, A, hmr, hpw, fun k hk => ?_, hAe⟩⟩
      obtain ⟨n', c', e⟩ := hk
      rcases B3.out.row with ⟨e1, _⟩ | ⟨g, c1, e1, _, _, h7⟩
      · rw [e1] at e; cases e
      · rw [e1] at e
        cases e
        have := SZ2.out
        omega
    case stop => rintro D c pre W hD hS h _; exact h.elim
end Go.Proofs.Ytjnpendihdlgnaa

/-
  A merger that has told all; the bytes of what comes next.
-/
namespace Go.Proofs.Ytjnpendihdlgnaa
open Go.RowKit
set_option maxRecDepth 100000
set_option maxHeartbeats 4000000
theorem next_end (p : Nat) (v : Value) (w : World) (h : w.heap[p]? = some (.cells #[.pointer (some ⟨p, 0, none⟩), v, .int .i64 ((0 : Nat) : Int)] 52 (0, 0))) : Calls Try.prog 25 #[.pointer (some ⟨p, 0, none⟩)] w fun e w' => e = .returned (.tuple #[.agg #[.slice none 0 0, .int .u64 0, .int .i64 0, .slice none 0 0], .bool false]) ∧ Below w.heap.size w w' := by
  have t0 := (Turns.refl (fun _ => False) w).alloc (.cells #[.slice none 0 0, .int .u64 0, .int .i64 0, .slice none 0 0] 25)
  have H0 := hide (t0.heap h (fun x => x))
  have B0 := hide (t0.below (B := w.heap.size) (Nat.le_refl _) (fun _ x => x.elim))
  clear h t0
  go_enter Try.func25, Try.ntmps25
  go_wp2_with fail
  refine (left_mr p 0 v _ H0.out).mono ?_
  rintro e w1 ⟨rfl, rfl⟩
  go_wp2_with fail
  refine bodyPost_ret (v := .tuple #[.agg #[.slice none 0 0, .int .u64 0, .int .i64 0, .slice none 0 0], .bool false]) ?_ rfl ?_
  · exact results_cell_tmp Try.results25 _ _ _ _ _ _ _ _ rfl rfl (heap_alloc_new w _) Try.underlying25 rfl info29
  · exact ⟨rfl, B0.out⟩
theorem peek_end (p : Nat) (v : Value) (w : World) (h : w.heap[p]? = some (.cells #[.pointer (some ⟨p, 0, none⟩), v, .int .i64 ((0 : Nat) : Int)] 52 (0, 0))) : Calls Try.prog 22 #[.pointer (some ⟨p, 0, none⟩)] w fun e w' => e = .returned (.tuple #[.agg #[.slice none 0 0, .int .u64 0, .int .i64 0, .slice none 0 0], .bool false]) ∧ Below w.heap.size w w' := by
  have t0 := (Turns.refl (fun _ => False) w).alloc (.cells #[.slice none 0 0, .int .u64 0, .int .i64 0, .slice none 0 0] 25)
  have H0 := hide (t0.heap h (fun x => x))
  have B0 := hide (t0.below (B := w.heap.size) (Nat.le_refl _) (fun _ x => x.elim))
  clear h t0
  go_enter Try.func22, Try.ntmps22
  go_wp2_with fail
  refine (left_mr p 0 v _ H0.out).mono ?_
  rintro e w1 ⟨rfl, rfl⟩
  go_wp2_with fail
  refine bodyPost_ret (v := .tuple #[.agg #[.slice none 0 0, .int .u64 0, .int .i64 0, .slice none 0 0], .bool false]) ?_ rfl ?_
  · exact results_cell_tmp Try.results22 _ _ _ _ _ _ _ _ rfl rfl (heap_alloc_new w _) Try.underlying25 rfl info29
  · exact ⟨rfl, B0.out⟩
theorem Mr.bytes {S : Nat → Prop} {w : World} {p : Nat} {v : Value} {L : List Hd} {A : List Tow} {i : Nat} (h : Mr S w p v L A i) {y : Tow} (hy : A[i]? = some y) : Bytes w (.slice y.ka y.e.key.length y.kc) y.e.key ∧ Bytes w (.slice y.va y.e.val.length y.vc) y.e.val ∧ ∀ q, y.lies q → ¬ S q := by
  have hi : i < A.length := (List.getElem?_eq_some_iff.1 hy).1
  obtain ⟨h0, T, y', r, rfl, hR, hy'⟩ := h.first hi
  obtain rfl : y' = y := by rw [hy'] at hy; exact Option.some.inj hy
  have hx := h.hb.each h0 (by simp)
  have hc := (hd_cells hx.1 hR).2
  exact ⟨hc.1, hc.2, fun q hq => hx.2 q (.inr ⟨y', by rw [hR]; simp, hq⟩)⟩
theorem Mr.rows {S : Nat → Prop} {w : World} {p : Nat} {v : Value} {L : List Hd} {A : List Tow} {i : Nat} (h : Mr S w p v L A i) : ∀ k, (k = p ∨ inRow v k) → S k := fun k hk => by
  rcases hk with e | ⟨n', c', e⟩
  · rw [e]; exact h.hb.sp
  · rcases h.hb.row with ⟨e1, _⟩ | ⟨g, c, e1, _, _, h3⟩
    · rw [e1] at e; cases e
    · rw [e1] at e; cases e; exact h3
/-- Next, with the bytes of what it tells. -/
theorem nextB_mr (S : Nat → Prop) (p : Nat) (v : Value) (L : List Hd) (A : List Tow) (i : Nat) (y : Tow) (w : World) (h : Mr S w p v L A i) (hy : A[i]? = some y) :
    Calls Try.prog 25 #[.pointer (some ⟨p, 0, none⟩)] w fun e w' => ∃ ka kc va vc, e = .returned (.tuple #[.agg #[.slice ka y.e.key.length kc, .int .u64 (y.e.seq : Nat), .int .i64 y.e.kind, .slice va y.e.val.length vc], .bool true]) ∧ Bytes w' (.slice ka y.e.key.length kc) y.e.key ∧ Bytes w' (.slice va y.e.val.length vc) y.e.val ∧ ∃ v' L', Mr S w' p v' L' A (i + 1) ∧ Moved p v v' w w' := by
  refine (next_mr S p v L A i y w h hy).mono ?_
  rintro e w' ⟨rfl, v', L', h', hm⟩
  obtain ⟨b1, b2, b3⟩ := h.bytes hy
  exact ⟨y.ka, y.kc, y.va, y.vc, rfl, bytes_keep' b1 hm.1 (fun x e hb hs => b3 x.block (.inl ⟨x, e, rfl, hb⟩) (h.rows _ hs)), bytes_keep' b2 hm.1 (fun x e hb hs => b3 x.block (.inr ⟨x, e, rfl, hb⟩) (h.rows _ hs)), v', L', h', hm⟩
end Go.Proofs.Ytjnpendihdlgnaa

/-
  MergeTurns: how a merger stands while the law goes.
-/
namespace Go.Proofs.Ytjnpendihdlgnaa
open Go.RowKit
set_option maxRecDepth 100000
set_option maxHeartbeats 4000000
def St (wr : World) (M : Nat) (vR mv : Value) (R : List Tow) (i : Nat) : Prop :=
  (mv = .pointer none ∧ R = []) ∨ ∃ (p N : Nat) (v : Value) (L : List Hd) (A : List Tow), mv = .pointer (some ⟨p, 0, none⟩) ∧ Mr (fun k => k < M ∨ N ≤ k) wr p v L A i ∧ M ≤ p ∧ ¬ inRow vR p ∧ (∀ k, inRow v k → M ≤ k ∧ ¬ inRow vR k) ∧ A.map (·.e) = R.map (·.e)
theorem St.keep {S' : Nat → Prop} {wr w' : World} {M : Nat} {vR mv : Value} {R : List Tow} {i : Nat} (h : St wr M vR mv R i) (t : Turns S' wr w') (hS : ∀ k, S' k → k < M) : St w' M vR mv R i := by
  rcases h with h | ⟨p, N, v, L, A, h1, h2, h3, h4, h5, h6⟩
  · exact .inl h
  · exact .inr ⟨p, N, v, L, A, h1, h2.keep t (fun x => by have := hS p x; omega) (fun k hk x => by have := hS k x; have := (h5 k hk).1; omega) (fun k x => .inl (hS k x)), h3, h4, h5, h6⟩
theorem St.quiet {wr w' : World} {M : Nat} {vR mv : Value} {R : List Tow} {i : Nat} (h : St wr M vR mv R i) (t : Turns (fun _ => False) wr w') : St w' M vR mv R i := h.keep t fun _ x => x.elim
theorem St.left {wr : World} {M : Nat} {vR mv : Value} {R : List Tow} {i : Nat} (h : St wr M vR mv R i) : Calls Try.prog 24 #[mv] wr fun e w' => e = .returned (.int .i64 ((R.length - i : Nat) : Int)) ∧ w' = wr := by
  rcases h with ⟨rfl, rfl⟩ | ⟨p, N, v, L, A, rfl, h2, _, _, _, h6⟩
  · refine (left_no _ wr (.inl rfl)).mono ?_
    rintro e w' ⟨rfl, rfl⟩
    exact ⟨by simp, rfl⟩
  · have hl : A.length = R.length := by have := congrArg List.length h6; simpa using this
    rw [← hl]
    exact left_mr p _ v wr h2.blk
theorem St.ends {wr : World} {M : Nat} {vR mv : Value} {R : List Tow} {i : Nat} (h : St wr M vR mv R i) (hi : R.length ≤ i) :
    (Calls Try.prog 25 #[mv] wr fun e w' => e = .returned (.tuple #[.agg #[.slice none 0 0, .int .u64 0, .int .i64 0, .slice none 0 0], .bool false]) ∧ Below wr.heap.size wr w') ∧ (Calls Try.prog 22 #[mv] wr fun e w' => e = .returned (.tuple #[.agg #[.slice none 0 0, .int .u64 0, .int .i64 0, .slice none 0 0], .bool false]) ∧ Below wr.heap.size wr w') := by
  rcases h with ⟨rfl, rfl⟩ | ⟨p, N, v, L, A, rfl, h2, _, _, _, h6⟩
  · exact ⟨next_no _ wr (.inl rfl), peek_no _ wr (.inl rfl)⟩
  · have hl : A.length = R.length := by have := congrArg List.length h6; simpa using this
    have hb := h2.blk
    rw [show A.length - i = 0 by omega] at hb
    exact ⟨next_end p v wr hb, peek_end p v wr hb⟩
theorem St.at {A R : List Tow} (h : A.map (·.e) = R.map (·.e)) {i : Nat} {y : Tow} (hy : R[i]? = some y) : ∃ z, A[i]? = some z ∧ z.e = y.e := by
  have := congrArg (·[i]?) h
  simp only [List.getElem?_map, hy, Option.map_some] at this
  obtain ⟨z, h1, h2⟩ := Option.map_eq_some_iff.1 this
  exact ⟨z, h1, h2⟩
theorem St.peek {wr : World} {M : Nat} {vR mv : Value} {R : List Tow} {i : Nat} (h : St wr M vR mv R i) {y : Tow} (hy : R[i]? = some y) (hf : y.e.key.length ≤ 1000000 ∧ y.e.val.length ≤ 1000000) :
    Calls Try.prog 22 #[mv] wr fun e w' => ∃ ka kc va vc, e = .returned (.tuple #[.agg #[.slice ka y.e.key.length kc, .int .u64 (y.e.seq : Nat), .int .i64 y.e.kind, .slice va y.e.val.length vc], .bool true]) ∧ Bytes w' (.slice ka y.e.key.length kc) y.e.key ∧ Bytes w' (.slice va y.e.val.length vc) y.e.val ∧ Below wr.heap.size wr w' := by
  rcases h with ⟨rfl, rfl⟩ | ⟨p, N, v, L, A, rfl, h2, _, _, _, h6⟩
  · simp at hy
  · obtain ⟨z, hz, he⟩ := St.at h6 hy
    have := peek_mr _ p v L A i z wr h2 hz (by rw [he]; exact hf)
    rw [he] at this
    exact this
theorem St.next {wr : World} {M : Nat} {vR mv : Value} {R : List Tow} {i : Nat} (h : St wr M vR mv R i) {y : Tow} (hy : R[i]? = some y) (hv : ∀ k, inRow vR k → k < wr.heap.size) (hM : M ≤ wr.heap.size) :
    Calls Try.prog 25 #[mv] wr fun e w' => ∃ ka kc va vc, e = .returned (.tuple #[.agg #[.slice ka y.e.key.length kc, .int .u64 (y.e.seq : Nat), .int .i64 y.e.kind, .slice va y.e.val.length vc], .bool true]) ∧ Bytes w' (.slice ka y.e.key.length kc) y.e.key ∧ Bytes w' (.slice va y.e.val.length vc) y.e.val ∧ St w' M vR mv R (i + 1) ∧ Turns (fun k => M ≤ k ∧ ¬ inRow vR k) wr w' := by
  rcases h with ⟨rfl, rfl⟩ | ⟨p, N, v, L, A, rfl, h2, h3, h4, h5, h6⟩
  · simp at hy
  · obtain ⟨z, hz, he⟩ := St.at h6 hy
    refine (nextB_mr _ p v L A i z wr h2 hz).mono ?_
    rintro e w' ⟨ka, kc, va, vc, rfl, b1, b2, v', L', h7, hm⟩
    rw [he] at b1 b2 ⊢
    refine ⟨ka, kc, va, vc, rfl, b1, b2, .inr ⟨p, N, v', L', A, rfl, h7, h3, h4, fun k hk => ?_, h6⟩, hm.1.mono fun k _ hk => ?_⟩
    · rcases hm.2 k hk with x | x
      · exact h5 k x
      · exact ⟨by omega, fun y => by have := hv k y; omega⟩
    · rcases hk with e | e
      · rw [e]; exact ⟨h3, h4⟩
      · exact h5 k e
/-- What New answers, as the law takes it. -/
theorem newS_any (a : Option Addr) (n c : Nat) (ps : List Rw) (w : World) (h : RowsIn w a ps) (hn : n = ps.length) (hg : Good ps) :
    Calls Try.prog 21 #[.slice a n c] w fun e w' => Below w.heap.size w w' ∧ ∃ mv : Value, e = .returned (.tuple #[mv, .int .i64 (ordE (eachOrd ps))]) ∧ (∀ u, (binOp .eql 41 mv (.pointer none)).run Try.prog u = .ok (.bool (! eachOrd ps)) u) ∧
      ∀ (vR : Value) (R : List Tow) (rs : List Rw) (w'' : World) (x : Option Addr), (∀ k, inRow vR k → w'.heap.size ≤ k) → RAllOk rs R → RowsIn w'' x rs → entR ps = entR rs → St w' w.heap.size vR mv R 0 := by
  refine (new_any a n c ps w h hn hg).mono ?_
  rintro e w' ⟨hb, ⟨ho, rfl⟩ | ⟨ho, p, rfl, N, v, L, A, hm, hp, hv, hA⟩⟩
  · refine ⟨hb, .pointer none, by rw [ho]; rfl, fun u => by rw [ho]; kernel_rfl, fun vR R rs w'' x _ hR _ he => .inl ⟨rfl, ?_⟩⟩
    rcases hR with ⟨o2, _⟩ | ⟨_, e⟩
    · rw [ord_both he, o2] at ho; cases ho
    · exact e
  · refine ⟨hb, _, by rw [ho]; rfl, fun u => by rw [ho]; kernel_rfl, fun vR R rs w'' x hvR hR hr he => .inr ⟨p, N, v, L, A, rfl, hm, hp, fun y => ?_, fun k hk => ⟨hv k hk, fun y => ?_⟩, ?_⟩⟩
    · have := hvR p y; have := lt_of_heap hm.blk; omega
    · have h1 := hvR k y
      obtain ⟨n', c', e⟩ := hk
      rcases hm.hb.row with ⟨e1, _⟩ | ⟨g, c, e1, h3, _⟩
      · rw [e1] at e; cases e
      · rw [e1] at e; cases e; have := h3.lt; omega
    · rcases hR with ⟨o2, hy, _⟩ | ⟨o2, _⟩
      · rw [he] at hA
        exact MgE.uniq (entR_up o2) hA (hy.ents hr)
      · rw [ord_both he, o2] at ho; cases ho
end Go.Proofs.Ytjnpendihdlgnaa
