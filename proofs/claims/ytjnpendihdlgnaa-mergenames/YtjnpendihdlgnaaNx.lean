/-
  The next entry of all.
-/
import Derived.Test.YtjnpendihdlgnaaMg
namespace Go.Proofs.Ytjnpendihdlgnaa
open Go.RowKit
set_option maxRecDepth 100000
set_option maxHeartbeats 4000000
def F47 (u : World) (p o g n c gx : Nat) (ka : Option Addr) (kn kc sq : Nat) (kd : Int) (va : Option Addr) (vn vc : Nat) : Prop :=
  u.cell? ⟨p, o, none⟩ = some (.slice (some ⟨g, 0, none⟩) n c) ∧ u.cell? ⟨gx, 0, none⟩ = some (.slice ka kn kc) ∧ u.cell? ⟨gx, 1, none⟩ = some (.int .u64 (sq : Nat)) ∧ u.cell? ⟨gx, 2, none⟩ = some (.int .i64 kd) ∧ u.cell? ⟨gx, 3, none⟩ = some (.slice va vn vc)
theorem Moved.block {p : Nat} {v v' : Value} {a b : World} (h : Moved p v v' a b) {k : Nat} {ob : Obj} (hk : a.heap[k]? = some ob) (h1 : k ≠ p) (h2 : ¬ inRow v k) : b.heap[k]? = some ob := h.1.heap hk fun x => x.elim h1 h2
theorem heap_first {L : List Hd} {h : Hd} {n : Nat} (hn : n = L.length + 1) (hh : Hp.Heap ltH (hf (h :: L)) n) : ∀ x, x ∈ h :: L → ¬ ltH x h := fun x hx => by
  obtain ⟨k, hk⟩ := List.getElem?_of_mem hx
  have h1 := Hp.heap_min ltH_tr ltH_irr hh k (by have := (List.getElem?_eq_some_iff.1 hk).1; simp at this; omega)
  rw [hf_at hk] at h1
  exact h1
/-- What is left is not ahead of the entry that the first head has. -/
theorem went_ge {L L1 : List Hd} {h0 : Hd} {y : Tow} {r0 : List Tow} (hu : Up L) (_ : h0 ∈ L) (hy : h0.R = y :: r0) (hmin : ∀ h, h ∈ L → ¬ ltH h h0) (hw : Went y.e.en L L1) : ∀ h, h ∈ L1 → h.R ≠ [] → cmpE y.e.en h.top ≤ 0 := fun h hh hne => by
  obtain ⟨d, r, p1, p2, p3⟩ := hw
  rcases List.mem_append.1 (p2.mem_iff.1 hh) with hm | hm
  · obtain ⟨a, ha, e⟩ := List.mem_filterMap.1 hm
    cases e2 : h.R with
    | nil => exact absurd e2 hne
    | cons z t =>
      have := adv_above (hu a (p1.mem_iff.2 (List.mem_append_left _ ha))) e (p3 a ha) z (by rw [e2]; simp)
      rw [top_cons e2]
      omega
  · have h1 := hmin h (p1.mem_iff.2 (List.mem_append_right _ hm))
    unfold ltH at h1
    rw [top_cons hy] at h1
    have := cmpE_swap y.e.en h.top
    omega
theorem next_any (S : Nat → Prop) (p o t : Nat) (cs : Array Value) (v : Value) (L : List Hd) (h0 : Hd) (y : Tow) (r0 : List Tow) (w : World) (h : HB S w p o t cs v (h0 :: L)) (hh : Hp.Heap ltH (hf (h0 :: L)) (L.length + 1)) (hu : Up (h0 :: L)) (hy : h0.R = y :: r0) :
    Calls Try.prog 47 #[.pointer (some ⟨p, o, none⟩)] w fun e w' => ∃ v' L', e = .returned (.agg #[.slice y.ka y.e.key.length y.kc, .int .u64 (y.e.seq : Nat), .int .i64 y.e.kind, .slice y.va y.e.val.length y.vc]) ∧ HB S w' p o t cs v' L' ∧ Hp.Heap ltH (hf L') L'.length ∧ Went y.e.en (h0 :: L) L' ∧ (∀ h, h ∈ L' → cmpE h.top y.e.en ≠ 0) ∧ tot L' < tot (h0 :: L) ∧ Moved p v v' w w' := by
  obtain ⟨g0, c0, hv0, hR, hgp, hsg⟩ := h.full (by simp)
  have hpl := lt_of_heap h.blk
  have hgl := hR.lt
  have hx := h.each h0 (by simp)
  have T0 := hide ((Turns.refl (fun _ => False) w).alloc (.cells #[.slice none 0 0, .int .u64 0, .int .i64 0, .slice none 0 0] 25))
  have HC := hide (hd_cells hx.1 hy)
  have hn0 := heap_alloc_new w (.cells #[.slice none 0 0, .int .u64 0, .int .i64 0, .slice none 0 0] 25)
  have hs0 : (w.alloc (.cells #[.slice none 0 0, .int .u64 0, .int .i64 0, .slice none 0 0] 25)).heap.size = w.heap.size + 1 := by simp
  have N0 := hide hn0
  have hcell0 := (h.quiet T0.out).cell
  have FI0 := hide (first_any g0 c0 _ (h0 :: L) h0 y r0 _ (hR.keep T0.out (fun x => x)) rfl rfl (hx.1.quiet T0.out) hy)
  have HS0 := hide hs0
  have H0 := hide h
  have HH := hide hh
  have HU := hide hu
  have HY := hide hy
  have hin0 : ∀ k, inRow v k → k < w.heap.size ∧ k ≠ p := fun k ⟨n', c', e⟩ => by
    rw [hv0] at e; cases e; exact ⟨hgl, hgp⟩
  have HIN0 := hide hin0
  have HPL := hide hpl
  have HV0 := hide hv0
  have XU := hide (show ∀ q, y.lies q → ¬ S q from fun q hq => hx.2 q (.inr ⟨y, by rw [hy]; simp, hq⟩))
  have SV := hide (show ∀ k, (k = p ∨ inRow v k) → S k from fun k hk => by
    rcases hk with e | ⟨n', c', e⟩
    · rw [e]; exact h.sp
    · rw [hv0] at e; cases e; exact hsg)
  rw [hv0] at hcell0
  generalize hn : (h0 :: L).length = n at FI0 hcell0
  clear h hh hu hy hx hn0 hs0 hR hn hpl hgl hin0 hv0
  go_enter Try.func47, Try.ntmps47
  go_upto_region 1 with (fail)
  generalize w.alloc (.cells #[.slice none 0 0, .int .u64 0, .int .i64 0, .slice none 0 0] 25) = w0 at *
  go_wp2_with fail
  refine FI0.out.mono ?_
  rintro e w1 ⟨rfl, hb1⟩
  have t1 := T0.out.trans (Turns.of_below hb1 _)
  have HC1 := hide (show Bytes w1 (.slice y.ka y.e.key.length y.kc) y.e.key from (HC.out.2.1.quiet t1))
  have n1 := (Turns.of_below hb1 (fun _ => False)).heap N0.out (fun x => x)
  have hz := hb1.size
  have HSZ := hide (show w.heap.size < w1.heap.size by have := HS0.out; omega)
  obtain ⟨w2, hw2⟩ : ∃ w2, w2 = w1.alloc (.cells #[.slice y.ka y.e.key.length y.kc, .int .u64 (y.e.seq : Nat), .int .i64 y.e.kind, .slice y.va y.e.val.length y.vc] 25) := ⟨_, rfl⟩
  have t2 : Turns (fun _ => False) w1 w2 := by rw [hw2]; exact (Turns.refl _ w1).alloc _
  have hsz2 : w2.heap.size = w1.heap.size + 1 := by rw [hw2]; simp
  have N1 := hide (show w2.heap[w1.heap.size]? = some (.cells #[.slice y.ka y.e.key.length y.kc, .int .u64 (y.e.seq : Nat), .int .i64 y.e.kind, .slice y.va y.e.val.length y.vc] 25 (0, 0)) by rw [hw2]; exact heap_alloc_new w1 _)
  have NR := hide (t2.heap n1 (fun x => x))
  have T2 := hide (t1.trans t2)
  have B2 := hide (H0.out.quiet T2.out)
  have KB := hide (HC1.out.quiet t2)
  have HW2 := hide hw2
  have HSZ2 := hide hsz2
  clear t1 n1 hz hb1 hw2 t2 hsz2 HC1 HC N0 FI0 hcell0 T0
  go_wp2_with fail
  rw [← HW2.out]
  generalize hN0 : w.heap.size = K0 at *
  generalize hN1 : w1.heap.size = K1 at *
  have FIN := hide (fun (wr : World) (v1 : Value) (L1 : List Hd) (hB : HB S wr p o t cs v1 L1) (hM : Moved p v v1 w2 wr) (hNR : wr.heap[K0]? = some (.cells #[.slice none 0 0, .int .u64 0, .int .i64 0, .slice none 0 0] 25 (0, 0))) =>
    show ∀ (w' : World) (u : Array Value), Tick wr w' K0 25 u → HB S w' p o t cs v1 L1 ∧ Moved p v v1 w w' from fun w' u hk => by
      have tk := Turns.of_tick hk
      have hi : ∀ k, inRow v1 k → ¬ k = K0 := fun k hk e => by
        rcases hM.2 k hk with x | x
        · have := (HIN0.out k x).1; omega
        · have := HSZ2.out; have := HSZ.out; omega
      refine ⟨hB.keep tk (by have := HPL.out; omega) hi (fun k e => by rw [e]; exact H0.out.up _ (by omega)), ((T2.out.mono fun _ _ x => x.elim).trans hM.1).andThen tk fun k hk e => by omega, fun k hk => ?_⟩
      rcases hM.2 k hk with x | x
      · exact .inl x
      · have := HSZ2.out; have := HSZ.out; exact .inr (by omega))
  go_loopw [] (fun wr => ∃ (v1 : Value) (L1 : List Hd), HB S wr p o t cs v1 L1 ∧ Hp.Heap ltH (hf L1) L1.length ∧ Went y.e.en (h0 :: L) L1 ∧ (tot L1 < tot (h0 :: L) ∨ L1 = h0 :: L) ∧ Moved p v v1 w2 wr) (fun wr => leftW p o wr)
  case atStart =>
    exact ⟨v, h0 :: L, B2.out, HH.out, Went.refl _ _, .inr rfl, Moved.quiet (Turns.refl _ _)⟩
  case round =>
    obtain ⟨v1, L1, hB, hH, hW, hlt, hM⟩ := hrel
    have hcell := hB.cell
    have hNR := hM.block NR.out (by have := HPL.out; omega) (fun x => by have := (HIN0.out _ x).1; omega)
    have hNX := hM.block N1.out (by have := HPL.out; have := HSZ.out; omega) (fun x => by have := (HIN0.out _ x).1; have := HSZ.out; omega)
    have B1 := hide hB
    have H1 := hide hH
    have W1 := hide hW
    have LT := hide hlt
    have M1 := hide hM
    have RR := hide hNR
    have RX := hide hNX
    have s0 : wr.cell? ⟨K1, 0, none⟩ = some (.slice y.ka y.e.key.length y.kc) := cell_of_row wr K1 0 _ 25 (0, 0) hNX
    have s1 : wr.cell? ⟨K1, 1, none⟩ = some (.int .u64 (y.e.seq : Nat)) := cell_of_row wr K1 1 _ 25 (0, 0) hNX
    have s2 : wr.cell? ⟨K1, 2, none⟩ = some (.int .i64 y.e.kind) := cell_of_row wr K1 2 _ 25 (0, 0) hNX
    have s3 : wr.cell? ⟨K1, 3, none⟩ = some (.slice y.va y.e.val.length y.vc) := cell_of_row wr K1 3 _ 25 (0, 0) hNX
    clear hB hH hW hlt hM hNR hNX
    obtain ⟨ka, kc, va, vc, ye⟩ := y
    simp only at *
    generalize hka : ye.key.length = kn at *
    generalize hva : ye.val.length = vn at *
    generalize hsq : ye.seq = sq at *
    generalize hkd : ye.kind = kd at *
    have HKA := hide hka
    have HVA := hide hva
    have HSQ := hide hsq
    have HKD := hide hkd
    clear hka hva hsq hkd
    cases L1 with
    | nil =>
      have hv1 : ∃ a c1, v1 = .slice a 0 c1 := by
        rcases B1.out.row with ⟨e, _⟩ | ⟨g, c1, e, _⟩
        · exact ⟨_, _, e⟩
        · exact ⟨_, _, e⟩
      obtain ⟨a1, c1, rfl⟩ := hv1
      go_upto_region 2 with (fail)
      go_quiet (fail)
      have tQ : Turns (fun _ => False) wr (wr.drewN nq) := (Turns.refl _ wr).drewN nq
      have hF := FIN.out (wr.drewN nq) _ _ (B1.out.quiet tQ) (M1.out.trans (Moved.quiet tQ)) (tQ.heap RR.out (fun x => x))
      have LT2 := hide (show tot ([] : List Hd) < tot (h0 :: L) from LT.out.resolve_right (by simp))
      have RR2 := hide (tQ.heap RR.out (fun x => x))
      have s0 := tQ.cell s0 (fun x => x)
      have s1 := tQ.cell s1 (fun x => x)
      have s2 := tQ.cell s2 (fun x => x)
      have s3 := tQ.cell s3 (fun x => x)
      have HF := hide hF
      clear hF tQ
      generalize wr.drewN nq = V at *
      have y0 := frozen_of_row V K0 0 _ 25 RR2.out
      have y1 := frozen_of_row V K0 1 _ 25 RR2.out
      have y2 := frozen_of_row V K0 2 _ 25 RR2.out
      have y3 := frozen_of_row V K0 3 _ 25 RR2.out
      have x0 := cell_of_row V K0 0 _ 25 (0, 0) RR2.out
      have x1 := cell_of_row V K0 1 _ 25 (0, 0) RR2.out
      have x2 := cell_of_row V K0 2 _ 25 (0, 0) RR2.out
      have x3 := cell_of_row V K0 3 _ 25 (0, 0) RR2.out
      go_wp2_with fail
      have k1 := ((((Tick.refl RR2.out).set 0 (.slice ka kn kc)).set 1 (.int .u64 (sq : Nat))).set 2 (.int .i64 kd)).set 3 (.slice va vn vc)
      have k2 := HF.out _ _ k1
      refine bodyPost_ret (v := .agg #[.slice ka kn kc, .int .u64 (sq : Nat), .int .i64 kd, .slice va vn vc]) ?_ rfl ?_
      · exact results_cell_row Try.results47 _ _ _ _ _ _ _ rfl k1.1 Try.underlying25 rfl info29
      · exact ⟨by rw [HKA.out, HVA.out, HSQ.out, HKD.out], _, [], k2.1, H1.out, W1.out, fun _ h => (by cases h), LT2.out, k2.2⟩
    | cons h1 T =>
      obtain ⟨g, c, hv1, hR1, hgp1, hsg1⟩ := B1.out.full (by simp)
      subst hv1
      have hx1 := (B1.out.each h1 (by simp)).1
      obtain ⟨z, r, hz⟩ : ∃ z r, h1.R = z :: r := by
        have := hx1.ne
        cases e : h1.R with
        | nil => exact absurd e this
        | cons z r => exact ⟨z, r, rfl⟩
      have FI := hide (fun (u : World) (tt : Turns (fun _ => False) wr u) => first_any g c _ (h1 :: T) h1 z r u (hR1.keep tt (fun x => x)) rfl rfl (hx1.quiet tt) hz)
      have hzk := (hd_cells hx1 hz).2.1
      have KY := hide (show Bytes wr (.slice ka kn kc) ye.key from bytes_keep' KB.out M1.out.1 fun a e hb x => XU.out a.block (.inl ⟨a, e, rfl, hb⟩) (SV.out _ x))
      have CP := hide (fun (u : World) (tt : Turns (fun _ => False) wr u) => compare_any z.ka ka z.va va z.e.key.length z.kc z.e.val.length z.vc kn kc vn vc z.e.kind kd z.e.seq sq z.e.key ye.key u (hzk.quiet tt) (KY.out.quiet tt))
      have SK := hide (fun (u : World) (tt : Turns (fun _ => False) wr u) => show F47 u p o g (T.length + 1) c K1 ka kn kc sq kd va vn vc from ⟨tt.cell hcell (fun x => x), tt.cell s0 (fun x => x), tt.cell s1 (fun x => x), tt.cell s2 (fun x => x), tt.cell s3 (fun x => x)⟩)
      have AD := hide (fun (u : World) (tt : Turns (fun _ => False) wr u) => advance_any S p o t cs _ T h1 u (B1.out.quiet tt) H1.out)
      have HZ := hide hz
      have HNE := hide hx1.ne
      have hnT : (T.length : Int) ≤ 1000000 := by have := B1.out.len; simp only [List.length_cons] at this; omega
      simp only [List.length_cons] at *
      generalize hT1 : T.length + 1 = n at *
      have HT1 := hide hT1
      have hnp : 0 < n := by omega
      clear hR1 hx1 hz hzk hcell hT1
      generalize hcv : cmpE (z.e.key, z.e.seq) (ye.key, sq) = cv at CP
      have HCV := hide hcv
      clear hcv
      go_upto_region 2 with (fail)
      have tV : Turns (fun _ => False) wr wr.drew := (Turns.refl _ _).drew
      refine wp_region_held_drew (S := fun u => F47 u p o g n c K1 ka kn kc sq kd va vn vc) (by kernel_rfl) (SK.out _ tV) (fun _ => ?_)
      change wpAnyH _ _ _ _ _ 14 (Array.replicate 14 false) _ _
      refine wpAnyH_take (i := 0) (oi := { dst := some 8, op := Op.move (Operand.tmp 0), type := 82, pos := "heads.go:52", after := #[], guard := none }) (v := .pointer (some ⟨p, o, none⟩)) rfl (by kernel_rfl) (by kernel_rfl) (by kernel_rfl) (fun _ _ _ h => h) (Or.inl ⟨by rfl, ?_⟩) (SK.out _ tV) ?_
      · rintro w ⟨d0, s0, s1, s2, s3⟩
        go_simp
      simp only [Act.put, List.setIfInBounds_toArray, List.set_cons_zero, List.set_cons_succ]
      refine wpAnyH_take (i := 1) (oi := { dst := some 9, op := Op.nilCheck (Operand.tmp 8), type := 0, pos := "heads.go:52", after := #[{ on := 0, ground := Ground.data }], guard := none }) (v := .pointer (some ⟨p, o, none⟩)) rfl (by kernel_rfl) (by kernel_rfl) (by kernel_rfl) (fun _ _ _ h => h) (Or.inl ⟨by rfl, ?_⟩) (SK.out _ tV) ?_
      · rintro w ⟨d0, s0, s1, s2, s3⟩
        go_simp
      simp only [Act.put, List.setIfInBounds_toArray, List.set_cons_zero, List.set_cons_succ]
      refine wpAnyH_take (i := 2) (oi := { dst := some 10, op := Op.load 50 (Operand.tmp 9), type := 50, pos := "heads.go:52", after := #[{ on := 1, ground := Ground.data }], guard := none }) (v := .slice (some ⟨g, 0, none⟩) n c) rfl (by kernel_rfl) (by kernel_rfl) (by kernel_rfl) (fun _ _ _ h => h) (Or.inl ⟨by rfl, ?_⟩) (SK.out _ tV) ?_
      · rintro w ⟨d0, s0, s1, s2, s3⟩
        go_simp
      simp only [Act.put, List.setIfInBounds_toArray, List.set_cons_zero, List.set_cons_succ]
      refine wpAnyH_take (i := 3) (oi := { dst := some 11, op := Op.call { callee := Callee.builtin Builtin.len, args := #[Operand.tmp 10], argTypes := #[50] }, type := 3, pos := "heads.go:52", after := #[{ on := 2, ground := Ground.data }], guard := none }) (v := .int .i64 (n : Nat)) rfl (by kernel_rfl) (by kernel_rfl) (by kernel_rfl) (fun _ _ _ h => h) (Or.inl ⟨by rfl, ?_⟩) (SK.out _ tV) ?_
      · rintro w ⟨d0, s0, s1, s2, s3⟩
        go_simp
      simp only [Act.put, List.setIfInBounds_toArray, List.set_cons_zero, List.set_cons_succ]
      refine wpAnyH_take (i := 4) (oi := { dst := some 12, op := Op.binOp BinOp.gtr 3 (Operand.tmp 11) (Operand.const (Value.int IntKind.i64 0)) 3, type := 4, pos := "heads.go:52", after := #[{ on := 3, ground := Ground.data }], guard := none }) (v := .bool true) rfl (by kernel_rfl) (by kernel_rfl) (by kernel_rfl) (fun _ _ _ h => h) (Or.inl ⟨by rfl, ?_⟩) (SK.out _ tV) ?_
      · rintro w ⟨d0, s0, s1, s2, s3⟩
        go_simp
      simp only [Act.put, List.setIfInBounds_toArray, List.set_cons_zero, List.set_cons_succ]
      refine wpAnyH_take (i := 5) (oi := { dst := some 13, op := Op.move (Operand.tmp 12), type := 4, pos := "heads.go:52", after := #[{ on := 4, ground := Ground.data }], guard := none }) (v := .bool true) rfl (by kernel_rfl) (by kernel_rfl) (by kernel_rfl) (fun _ _ _ h => h) (Or.inl ⟨by rfl, ?_⟩) (SK.out _ tV) ?_
      · rintro w ⟨d0, s0, s1, s2, s3⟩
        go_simp
      simp only [Act.put, List.setIfInBounds_toArray, List.set_cons_zero, List.set_cons_succ]
      refine wpAnyH_take (i := 6) (oi := { dst := some 14, op := Op.move (Operand.tmp 0), type := 82, pos := "heads.go:52", after := #[{ on := 5, ground := Ground.guard }], guard := some (5, true) }) (v := .pointer (some ⟨p, o, none⟩)) rfl (by kernel_rfl) (by kernel_rfl) (by kernel_rfl) (fun _ _ _ h => h) (Or.inl ⟨by rfl, ?_⟩) (SK.out _ tV) ?_
      · rintro w ⟨d0, s0, s1, s2, s3⟩
        go_simp
      simp only [Act.put, List.setIfInBounds_toArray, List.set_cons_zero, List.set_cons_succ]
      refine wpAnyH_take (i := 7) (oi := { dst := some 15, op := Op.nilCheck (Operand.tmp 14), type := 0, pos := "heads.go:52", after := #[{ on := 6, ground := Ground.data }, { on := 5, ground := Ground.guard }], guard := some (5, true) }) (v := .pointer (some ⟨p, o, none⟩)) rfl (by kernel_rfl) (by kernel_rfl) (by kernel_rfl) (fun _ _ _ h => h) (Or.inl ⟨by rfl, ?_⟩) (SK.out _ tV) ?_
      · rintro w ⟨d0, s0, s1, s2, s3⟩
        go_simp
      simp only [Act.put, List.setIfInBounds_toArray, List.set_cons_zero, List.set_cons_succ]
      refine wpAnyH_take (i := 8) (oi := { dst := some 16, op := Op.load 50 (Operand.tmp 15), type := 50, pos := "heads.go:52", after := #[{ on := 7, ground := Ground.data }, { on := 5, ground := Ground.guard }], guard := some (5, true) }) (v := .slice (some ⟨g, 0, none⟩) n c) rfl (by kernel_rfl) (by kernel_rfl) (by kernel_rfl) (fun _ _ _ h => h) (Or.inl ⟨by rfl, ?_⟩) (SK.out _ tV) ?_
      · rintro w ⟨d0, s0, s1, s2, s3⟩
        go_simp
      simp only [Act.put, List.setIfInBounds_toArray, List.set_cons_zero, List.set_cons_succ]
      refine wpAnyH_take (i := 10) (oi := { dst := some 18, op := Op.load 25 (Operand.tmp 3), type := 25, pos := "heads.go:52", after := #[{ on := 5, ground := Ground.guard }], guard := some (5, true) }) (v := .agg #[.slice ka kn kc, .int .u64 (sq : Nat), .int .i64 kd, .slice va vn vc]) rfl (by kernel_rfl) (by kernel_rfl) (by kernel_rfl) (fun _ _ _ h => h) (Or.inl ⟨by rfl, ?_⟩) (SK.out _ tV) ?_
      · rintro w ⟨d0, s0, s1, s2, s3⟩
        go_simp
      simp only [Act.put, List.setIfInBounds_toArray, List.set_cons_zero, List.set_cons_succ]
      refine wpAnyH_ready (rs := [9]) (by kernel_rfl) (by simp) ?_
      refine AllReadyH.cons rfl (fun K hK => ?_) AllReadyH.nil
      go_simp
      refine (FI.out _ tV).mono ?_
      rintro oo Vn ⟨rfl, b2⟩
      have tN := Turns.of_below b2 (fun _ => False)
      have tV := tV.trans tN
      clear b2 FI
      clear tN
      go_simp
      refine hK.out _ _ (SK.out _ tV) (fun _ => ?_)
      clear hK K
      refine wpAnyH_ready (rs := [11]) (by kernel_rfl) (by simp) ?_
      refine AllReadyH.cons rfl (fun K hK => ?_) AllReadyH.nil
      go_simp
      refine (CP.out _ tV).mono ?_
      rintro oo Vn ⟨rfl, b2⟩
      have tN := Turns.of_below b2 (fun _ => False)
      have tV := tV.trans tN
      clear b2 CP
      clear tN
      go_simp
      refine hK.out _ _ (SK.out _ tV) (fun _ => ?_)
      clear hK K
      refine wpAnyH_take (i := 12) (oi := { dst := some 20, op := Op.binOp BinOp.eql 3 (Operand.tmp 19) (Operand.const (Value.int IntKind.i64 0)) 3, type := 4, pos := "heads.go:52", after := #[{ on := 11, ground := Ground.data }, { on := 5, ground := Ground.guard }], guard := some (5, true) }) (v := .bool (cv == 0)) rfl (by kernel_rfl) (by kernel_rfl) (by kernel_rfl) (fun _ _ _ h => h) (Or.inl ⟨by rfl, ?_⟩) (SK.out _ tV) ?_
      · rintro w ⟨d0, s0, s1, s2, s3⟩
        go_simp
      simp only [Act.put, List.setIfInBounds_toArray, List.set_cons_zero, List.set_cons_succ]
      refine wpAnyH_take (i := 13) (oi := { dst := some 21, op := Op.pick (Operand.tmp 13) (Operand.tmp 20) (Operand.const (Value.bool false)), type := 4, pos := "heads.go:52", after := #[{ on := 5, ground := Ground.data }, { on := 12, ground := Ground.data }], guard := none }) (v := .bool (cv == 0)) rfl (by kernel_rfl) (by kernel_rfl) (by kernel_rfl) (fun _ _ _ h => h) (Or.inl ⟨by rfl, ?_⟩) (SK.out _ tV) ?_
      · rintro w ⟨d0, s0, s1, s2, s3⟩
        go_simp
      simp only [Act.put, List.setIfInBounds_toArray, List.set_cons_zero, List.set_cons_succ]
      refine wpAnyH_done (by kernel_rfl) ?_ _
      have TV := hide tV
      clear tV
      by_cases hcv0 : cv = 0
      · subst hcv0
        go_wp2_with fail
        refine (AD.out _ TV.out).mono ?_
        rintro e w3 ⟨v2, L2, ⟨u, rfl⟩, hB2, hP2, hH2, hM2⟩
        have tt2 := tot_adv (L := T) HNE.out
        have hme := leftW_of B1.out
        have hm2 := leftW_of hB2
        have REL := hide (show ∃ (v1 : Value) (L1 : List Hd), HB S w3 p o t cs v1 L1 ∧ Hp.Heap ltH (hf L1) L1.length ∧ Went ye.en (h0 :: L) L1 ∧ (tot L1 < tot (h0 :: L) ∨ L1 = h0 :: L) ∧ Moved p v v1 w2 w3 by
          refine ⟨v2, L2, hB2, hH2, W1.out.step HU.out ?_ HNE.out hP2, .inl ?_, (M1.out.trans (Moved.quiet TV.out)).trans hM2⟩
          · rw [top_cons HZ.out]
            have := HCV.out
            rw [← HSQ.out] at this
            exact this
          · rw [tot_perm hP2]
            rcases LT.out with x | x
            · omega
            · rw [← x]; omega)
        have MEA := hide (show leftW p o w3 < leftW p o wr by rw [hm2, hme, tot_perm hP2]; omega)
        clear hB2 hP2 hH2 hM2 tt2 hme hm2
        go_wp2_with fail
        go_roundw
        case rel => exact REL.out
        case measure => exact MEA.out
      · have tQ := TV.out
        have hF := FIN.out Vn _ _ (B1.out.quiet tQ) (M1.out.trans (Moved.quiet tQ)) (tQ.heap RR.out (fun x => x))
        have hct : cmpE h1.top ye.en ≠ 0 := by
          rw [top_cons HZ.out]
          have := HCV.out
          rw [← HSQ.out] at this
          rw [show cmpE z.e.en ye.en = cv from this]
          exact hcv0
        have LT2 := hide (show tot (h1 :: T) < tot (h0 :: L) from LT.out.resolve_right fun e => by
          obtain ⟨e1, _⟩ := List.cons.inj e
          rw [e1, top_cons HY.out] at hct
          exact hct ((cmpE_zero _ _).2 ⟨rfl, rfl⟩))
        have HEND := hide (show ∀ h, h ∈ h1 :: T → cmpE h.top ye.en ≠ 0 from fun h hh => by
          have g1 := went_ge HU.out (by simp) HY.out (heap_first rfl HH.out) W1.out h1 (by simp) HNE.out
          have g2 := heap_first HT1.out.symm H1.out h hh
          unfold ltH at g2
          have q1 := cmpE_swap h1.top h.top
          have q2 := cmpE_swap ye.en h1.top
          have q3 := @cmpE_sub ye.en h1.top h.top g1 (by omega)
          have q4 := cmpE_swap ye.en h.top
          omega)
        clear hct
        have RR2 := hide (tQ.heap RR.out (fun x => x))
        have s0 := tQ.cell s0 (fun x => x)
        have s1 := tQ.cell s1 (fun x => x)
        have s2 := tQ.cell s2 (fun x => x)
        have s3 := tQ.cell s3 (fun x => x)
        have HF := hide hF
        clear hF tQ
        generalize Vn = V at *
        have y0 := frozen_of_row V K0 0 _ 25 RR2.out
        have y1 := frozen_of_row V K0 1 _ 25 RR2.out
        have y2 := frozen_of_row V K0 2 _ 25 RR2.out
        have y3 := frozen_of_row V K0 3 _ 25 RR2.out
        have x0 := cell_of_row V K0 0 _ 25 (0, 0) RR2.out
        have x1 := cell_of_row V K0 1 _ 25 (0, 0) RR2.out
        have x2 := cell_of_row V K0 2 _ 25 (0, 0) RR2.out
        have x3 := cell_of_row V K0 3 _ 25 (0, 0) RR2.out
        go_wp2_with fail
        have k1 := ((((Tick.refl RR2.out).set 0 (.slice ka kn kc)).set 1 (.int .u64 (sq : Nat))).set 2 (.int .i64 kd)).set 3 (.slice va vn vc)
        have k2 := HF.out _ _ k1
        refine bodyPost_ret (v := .agg #[.slice ka kn kc, .int .u64 (sq : Nat), .int .i64 kd, .slice va vn vc]) ?_ rfl ?_
        · exact results_cell_row Try.results47 _ _ _ _ _ _ _ rfl k1.1 Try.underlying25 rfl info29
        · exact ⟨by rw [HKA.out, HVA.out, HSQ.out, HKD.out], _, h1 :: T, k2.1, by rw [show (h1 :: T).length = n from HT1.out]; exact H1.out, W1.out, HEND.out, LT2.out, k2.2⟩
end Go.Proofs.Ytjnpendihdlgnaa
