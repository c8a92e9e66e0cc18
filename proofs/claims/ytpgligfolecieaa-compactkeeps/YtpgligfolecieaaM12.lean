import Derived.Test.YtpgligfolecieaaM11
/-
  The next entry of all.
-/
namespace Go.Proofs.Ytpgligfolecieaa
open Go.RowKit
set_option maxRecDepth 100000
set_option maxHeartbeats 4000000
def F47 (u : World) (p o g n c gx : Nat) (ka : Option Addr) (kn kc sq : Nat) (kd : Int) (va : Option Addr) (vn vc : Nat) : Prop :=
  u.cell? ⟨p, o, none⟩ = some (.slice (some ⟨g, 0, none⟩) n c) ∧ u.cell? ⟨gx, 0, none⟩ = some (.slice ka kn kc) ∧ u.cell? ⟨gx, 1, none⟩ = some (.int .u64 (sq : Nat)) ∧ u.cell? ⟨gx, 2, none⟩ = some (.int .i64 kd) ∧ u.cell? ⟨gx, 3, none⟩ = some (.slice va vn vc)
theorem Moved.block {p : Nat} {v v' : Value} {a b : World} (h : Moved p v v' a b) {k : Nat} {ob : Obj} (hk : a.heap[k]? = some ob) (h1 : k ≠ p) (h2 : ¬ inRow v k) : b.heap[k]? = some ob := h.1.heap hk fun x => x.elim h1 h2
theorem heap_first {L : List Hd} {h : Hd} {n : Nat} (hn : n = L.length + 1) (hh : Hp.Heap ltH (hf (h :: L)) n) : ∀ x, x ∈ h :: L → ¬ ltH x h := fun x hx => by
  obtain ⟨k, hk⟩ := List.getElem?_of_mem hx
  have h1 := Hp.heap_min ltH_tr ltH_irr hh k (by have := (List.getElem?_eq_some_iff.1 hk).1; simp at this; omega)
  rw [hf_at hk] at h1
  exact h1
/-- What is left is not ahead of the entry that the first head has. -/
theorem went_ge {L L1 : List Hd} {h0 : Hd} {y : Tow} {r0 : List Tow} (hu : Up L) (_ : h0 ∈ L) (hy : h0.R = y :: r0) (hmin : ∀ h, h ∈ L → ¬ ltH h h0) (hw : Went y.e.en L L1) : ∀ h, h ∈ L1 → h.R ≠ [] → cmpE y.e.en h.top ≤ 0 := fun h hh hne => by
  obtain ⟨d, r, p1, p2, p3⟩ := hw
  rcases List.mem_append.1 (p2.mem_iff.1 hh) with hm | hm
  · obtain ⟨a, ha, e⟩ := List.mem_filterMap.1 hm
    cases e2 : h.R with
    | nil => exact absurd e2 hne
    | cons z t =>
      have := adv_above (hu a (p1.mem_iff.2 (List.mem_append_left _ ha))) e (p3 a ha) z (by rw [e2]; simp)
      rw [top_cons e2]
      omega
  · have h1 := hmin h (p1.mem_iff.2 (List.mem_append_right _ hm))
    unfold ltH at h1
    rw [top_cons hy] at h1
    have := cmpE_swap y.e.en h.top
    omega
theorem next_any (S : Nat → Prop) (p o t : Nat) (cs : Array Value) (v : Value) (L : List Hd) (h0 : Hd) (y : Tow) (r0 : List Tow) (w : World) (h : HB S w p o t cs v (h0 :: L)) (hh : Hp.Heap ltH (hf (h0 :: L)) (L.length + 1)) (hu : Up (h0 :: L)) (hy : h0.R = y :: r0) :
    Calls Try.prog 73 #[.pointer (some ⟨p, o, none⟩)] w fun e w' => ∃ v' L', e = .returned (.agg #[.slice y.ka y.e.key.length y.kc, .int .u64 (y.e.seq : Nat), .int .i64 y.e.kind, .slice y.va y.e.val.length y.vc]) ∧ HB S w' p o t cs v' L' ∧ Hp.Heap ltH (hf L') L'.length ∧ Went y.e.en (h0 :: L) L' ∧ (∀ h, h ∈ L' → cmpE h.top y.e.en ≠ 0) ∧ tot L' < tot (h0 :: L) ∧ Moved p v v' w w' := by
  obtain ⟨g0, c0, hv0, hR, hgp, hsg⟩ := h.full (by simp)
  have hpl := lt_of_heap h.blk
  have hgl := hR.lt
  have hx := h.each h0 (by simp)
  have T0 := hide ((Turns.refl (fun _ => False) w).alloc (.cells #[.slice none 0 0, .int .u64 0, .int .i64 0, .slice none 0 0] 29))
  have HC := hide (hd_cells hx.1 hy)
  have hn0 := heap_alloc_new w (.cells #[.slice none 0 0, .int .u64 0, .int .i64 0, .slice none 0 0] 29)
  have hs0 : (w.alloc (.cells #[.slice none 0 0, .int .u64 0, .int .i64 0, .slice none 0 0] 29)).heap.size = w.heap.size + 1 := by simp
  have N0 := hide hn0
  have hcell0 := (h.quiet T0.out).cell
  have FI0 := hide (first_any g0 c0 _ (h0 :: L) h0 y r0 _ (hR.keep T0.out (fun x => x)) rfl rfl (hx.1.quiet T0.out) hy)
  have HS0 := hide hs0
  have H0 := hide h
  have HH := hide hh
  have HU := hide hu
  have HY := hide hy
  have hin0 : ∀ k, inRow v k → k < w.heap.size ∧ k ≠ p := fun k ⟨n', c', e⟩ => by
    rw [hv0] at e; cases e; exact ⟨hgl, hgp⟩
  have HIN0 := hide hin0
  have HPL := hide hpl
  have HV0 := hide hv0
  have XU := hide (show ∀ q, y.lies q → ¬ S q from fun q hq => hx.2 q (.inr ⟨y, by rw [hy]; simp, hq⟩))
  have SV := hide (show ∀ k, (k = p ∨ inRow v k) → S k from fun k hk => by
    rcases hk with e | ⟨n', c', e⟩
    · rw [e]; exact h.sp
    · rw [hv0] at e; cases e; exact hsg)
  rw [hv0] at hcell0
  generalize hn : (h0 :: L).length = n at FI0 hcell0
  clear h hh hu hy hx hn0 hs0 hR hn hpl hgl hin0 hv0
  go_enter Try.func73, Try.ntmps73
  go_upto_region 1 with (fail)
  generalize w.alloc (.cells #[.slice none 0 0, .int .u64 0, .int .i64 0, .slice none 0 0] 29) = w0 at *
  go_wp2_with fail
  refine FI0.out.mono ?_
  rintro e w1 ⟨rfl, hb1⟩
  have t1 := T0.out.trans (Turns.of_below hb1 _)
  have HC1 := hide (show Bytes w1 (.slice y.ka y.e.key.length y.kc) y.e.key from (HC.out.2.1.quiet t1))
  have n1 := (Turns.of_below hb1 (fun _ => False)).heap N0.out (fun x => x)
  have hz := hb1.size
  have HSZ := hide (show w.heap.size < w1.heap.size by have := HS0.out; omega)
  obtain ⟨w2, hw2⟩ : ∃ w2, w2 = w1.alloc (.cells #[.slice y.ka y.e.key.length y.kc, .int .u64 (y.e.seq : Nat), .int .i64 y.e.kind, .slice y.va y.e.val.length y.vc] 29) := ⟨_, rfl⟩
  have t2 : Turns (fun _ => False) w1 w2 := by rw [hw2]; exact (Turns.refl _ w1).alloc _
  have hsz2 : w2.heap.size = w1.heap.size + 1 := by rw [hw2]; simp
  have N1 := hide (show w2.heap[w1.heap.size]? = some (.cells #[.slice y.ka y.e.key.length y.kc, .int .u64 (y.e.seq : Nat), .int .i64 y.e.kind, .slice y.va y.e.val.length y.vc] 29 (0, 0)) by rw [hw2]; exact heap_alloc_new w1 _)
  have NR := hide (t2.heap n1 (fun x => x))
  have T2 := hide (t1.trans t2)
  have B2 := hide (H0.out.quiet T2.out)
  have KB := hide (HC1.out.quiet t2)
  have HW2 := hide hw2
  have HSZ2 := hide hsz2
  clear t1 n1 hz hb1 hw2 t2 hsz2 HC1 HC N0 FI0 hcell0 T0
  go_wp2_with fail
  rw [← HW2.out]
  generalize hN0 : w.heap.size = K0 at *
  generalize hN1 : w1.heap.size = K1 at *
  have FIN := hide (fun (wr : World) (v1 : Value) (L1 : List Hd) (hB : HB S wr p o t cs v1 L1) (hM : Moved p v v1 w2 wr) (hNR : wr.heap[K0]? = some (.cells #[.slice none 0 0, .int .u64 0, .int .i64 0, .slice none 0 0] 29 (0, 0))) =>
    show ∀ (w' : World) (u : Array Value), Tick wr w' K0 29 u → HB S w' p o t cs v1 L1 ∧ Moved p v v1 w w' from fun w' u hk => by
      have tk := Turns.of_tick hk
      have hi : ∀ k, inRow v1 k → ¬ k = K0 := fun k hk e => by
        rcases hM.2 k hk with x | x
        · have := (HIN0.out k x).1; omega
        · have := HSZ2.out; have := HSZ.out; omega
      refine ⟨hB.keep tk (by have := HPL.out; omega) hi (fun k e => by rw [e]; exact H0.out.up _ (by omega)), ((T2.out.mono fun _ _ x => x.elim).trans hM.1).andThen tk fun k hk e => by omega, fun k hk => ?_⟩
      rcases hM.2 k hk with x | x
      · exact .inl x
      · have := HSZ2.out; have := HSZ.out; exact .inr (by omega))
  go_loopw [] (fun wr => ∃ (v1 : Value) (L1 : List Hd), HB S wr p o t cs v1 L1 ∧ Hp.Heap ltH (hf L1) L1.length ∧ Went y.e.en (h0 :: L) L1 ∧ (tot L1 < tot (h0 :: L) ∨ L1 = h0 :: L) ∧ Moved p v v1 w2 wr) (fun wr => leftW p o wr)
  case atStart =>
    exact ⟨v, h0 :: L, B2.out, HH.out, Went.refl _ _, .inr rfl, Moved.quiet (Turns.refl _ _)⟩
  case round =>
    obtain ⟨v1, L1, hB, hH, hW, hlt, hM⟩ := hrel
    have hcell := hB.cell
    have hNR := hM.block NR.out (by have := HPL.out; omega) (fun x => by have := (HIN0.out _ x).1; omega)
    have hNX := hM.block N1.out (by have := HPL.out; have := HSZ.out; omega) (fun x => by have := (HIN0.out _ x).1; have := HSZ.out; omega)
    have B1 := hide hB
    have H1 := hide hH
    have W1 := hide hW
    have LT := hide hlt
    have M1 := hide hM
    have RR := hide hNR
    have RX := hide hNX
    have s0 : wr.cell? ⟨K1, 0, none⟩ = some (.slice y.ka y.e.key.length y.kc) := cell_of_row wr K1 0 _ 29 (0, 0) hNX
    have s1 : wr.cell? ⟨K1, 1, none⟩ = some (.int .u64 (y.e.seq : Nat)) := cell_of_row wr K1 1 _ 29 (0, 0) hNX
    have s2 : wr.cell? ⟨K1, 2, none⟩ = some (.int .i64 y.e.kind) := cell_of_row wr K1 2 _ 29 (0, 0) hNX
    have s3 : wr.cell? ⟨K1, 3, none⟩ = some (.slice y.va y.e.val.length y.vc) := cell_of_row wr K1 3 _ 29 (0, 0) hNX
    clear hB hH hW hlt hM hNR hNX
    obtain ⟨ka, kc, va, vc, ye⟩ := y
    simp only at *
    generalize hka : ye.key.length = kn at *
    generalize hva : ye.val.length = vn at *
    generalize hsq : ye.seq = sq at *
    generalize hkd : ye.kind = kd at *
    have HKA := hide hka
    have HVA := hide hva
    have HSQ := hide hsq
    have HKD := hide hkd
    clear hka hva hsq hkd
    cases L1 with
    | nil =>
      have hv1 : ∃ a c1, v1 = .slice a 0 c1 := by
        rcases B1.out.row with ⟨e, _⟩ | ⟨g, c1, e, _⟩
        · exact ⟨_, _, e⟩
        · exact ⟨_, _, e⟩
      obtain ⟨a1, c1, rfl⟩ := hv1
      go_upto_region 2 with (fail)
      go_quiet (fail)
      have tQ : Turns (fun _ => False) wr (wr.drewN nq) := (Turns.refl _ wr).drewN nq
      have hF := FIN.out (wr.drewN nq) _ _ (B1.out.quiet tQ) (M1.out.trans (Moved.quiet tQ)) (tQ.heap RR.out (fun x => x))
      have LT2 := hide (show tot ([] : List Hd) < tot (h0 :: L) from LT.out.resolve_right (by simp))
      have RR2 := hide (tQ.heap RR.out (fun x => x))
      have s0 := tQ.cell s0 (fun x => x)
      have s1 := tQ.cell s1 (fun x => x)
      have s2 := tQ.cell s2 (fun x => x)
      have s3 := tQ.cell s3 (fun x => x)
      have HF := hide hF
      clear hF tQ
      generalize wr.drewN nq = V at *
      have y0 := frozen_of_row V K0 0 _ 29 RR2.out
      have y1 := frozen_of_row V K0 1 _ 29 RR2.out
      have y2 := frozen_of_row V K0 2 _ 29 RR2.out
      have y3 := frozen_of_row V K0 3 _ 29 RR2.out
      have x0 := cell_of_row V K0 0 _ 29 (0, 0) RR2.out
      have x1 := cell_of_row V K0 1 _ 29 (0, 0) RR2.out
      have x2 := cell_of_row V K0 2 _ 29 (0, 0) RR2.out
      have x3 := cell_of_row V K0 3 _ 29 (0, 0) RR2.out
      go_wp2_with fail
      have k1 := ((((Tick.refl RR2.out).set 0 (.slice ka kn kc)).set 1 (.int .u64 (sq : Nat))).set 2 (.int .i64 kd)).set 3 (.slice va vn vc)
      have k2 := HF.out _ _ k1
      refine bodyPost_ret (v := .agg #[.slice ka kn kc, .int .u64 (sq : Nat), .int .i64 kd, .slice va vn vc]) ?_ rfl ?_
      · exact results_cell_row Try.results73 _ _ _ _ _ _ _ rfl k1.1 Try.underlying29 rfl info29
      · exact ⟨by rw [HKA.out, HVA.out, HSQ.out, HKD.out], _, [], k2.1, H1.out, W1.out, fun _ h => (by cases h), LT2.out, k2.2⟩
    | cons h1 T =>
      obtain ⟨g, c, hv1, hR1, hgp1, hsg1⟩ := B1.out.full (by simp)
      subst hv1
      have hx1 := (B1.out.each h1 (by simp)).1
      obtain ⟨z, r, hz⟩ : ∃ z r, h1.R = z :: r := by
        have := hx1.ne
        cases e : h1.R with
        | nil => exact absurd e this
        | cons z r => exact ⟨z, r, rfl⟩
      have FI := hide (fun (u : World) (tt : Turns (fun _ => False) wr u) => first_any g c _ (h1 :: T) h1 z r u (hR1.keep tt (fun x => x)) rfl rfl (hx1.quiet tt) hz)
      have hzk := (hd_cells hx1 hz).2.1
      have KY := hide (show Bytes wr (.slice ka kn kc) ye.key from bytes_keep' KB.out M1.out.1 fun a e hb x => XU.out a.block (.inl ⟨a, e, rfl, hb⟩) (SV.out _ x))
      have CP := hide (fun (u : World) (tt : Turns (fun _ => False) wr u) => compare_any z.ka ka z.va va z.e.key.length z.kc z.e.val.length z.vc kn kc vn vc z.e.kind kd z.e.seq sq z.e.key ye.key u (hzk.quiet tt) (KY.out.quiet tt))
      have SK := hide (fun (u : World) (tt : Turns (fun _ => False) wr u) => show F47 u p o g (T.length + 1) c K1 ka kn kc sq kd va vn vc from ⟨tt.cell hcell (fun x => x), tt.cell s0 (fun x => x), tt.cell s1 (fun x => x), tt.cell s2 (fun x => x), tt.cell s3 (fun x => x)⟩)
      have AD := hide (fun (u : World) (tt : Turns (fun _ => False) wr u) => advance_any S p o t cs _ T h1 u (B1.out.quiet tt) H1.out)
      have HZ := hide hz
      have HNE := hide hx1.ne
      have hnT : (T.length : Int) ≤ 1000000 := by have := B1.out.len; simp only [List.length_cons] at this; omega
      simp only [List.length_cons] at *
      generalize hT1 : T.length + 1 = n at *
      have HT1 := hide hT1
      have hnp : 0 < n := by omega
      clear hR1 hx1 hz hzk hcell hT1
      generalize hcv : cmpE (z.e.key, z.e.seq) (ye.key, sq) = cv at CP
      have HCV := hide hcv
      clear hcv
      go_upto_region 2 with (fail)
      have tV : Turns (fun _ => False) wr wr.drew := (Turns.refl _ _).drew
      refine wp_region_held_drew (S := fun u => F47 u p o g n c K1 ka kn kc sq kd va vn vc) (by kernel_rfl) (SK.out _ tV) (fun _ => ?_)
      change wpAnyH _ _ _ _ _ 14 (Array.replicate 14 false) _ _
      refine wpAnyH_take (i := 0) (oi := { dst := some 8, op := Op.move (Operand.tmp 0), type := 92, pos := "heads.go:52", after := #[], guard := none }) (v := .pointer (some ⟨p, o, none⟩)) rfl (by kernel_rfl) (by kernel_rfl) (by kernel_rfl) (fun _ _ _ h => h) (Or.inl ⟨by rfl, ?_⟩) (SK.out _ tV) ?_
      · rintro w ⟨d0, s0, s1, s2, s3⟩
        go_simp
      simp only [Act.put, List.setIfInBounds_toArray, List.set_cons_zero, List.set_cons_succ]
      refine wpAnyH_take (i := 1) (oi := { dst := some 9, op := Op.nilCheck (Operand.tmp 8), type := 0, pos := "heads.go:52", after := #[{ on := 0, ground := Ground.data }], guard := none }) (v := .pointer (some ⟨p, o, none⟩)) rfl (by kernel_rfl) (by kernel_rfl) (by kernel_rfl) (fun _ _ _ h => h) (Or.inl ⟨by rfl, ?_⟩) (SK.out _ tV) ?_
      · rintro w ⟨d0, s0, s1, s2, s3⟩
        go_simp
      simp only [Act.put, List.setIfInBounds_toArray, List.set_cons_zero, List.set_cons_succ]
      refine wpAnyH_take (i := 2) (oi := { dst := some 10, op := Op.load 86 (Operand.tmp 9), type := 86, pos := "heads.go:52", after := #[{ on := 1, ground := Ground.data }], guard := none }) (v := .slice (some ⟨g, 0, none⟩) n c) rfl (by kernel_rfl) (by kernel_rfl) (by kernel_rfl) (fun _ _ _ h => h) (Or.inl ⟨by rfl, ?_⟩) (SK.out _ tV) ?_
      · rintro w ⟨d0, s0, s1, s2, s3⟩
        go_simp
      simp only [Act.put, List.setIfInBounds_toArray, List.set_cons_zero, List.set_cons_succ]
      refine wpAnyH_take (i := 3) (oi := { dst := some 11, op := Op.call { callee := Callee.builtin Builtin.len, args := #[Operand.tmp 10], argTypes := #[86] }, type := 3, pos := "heads.go:52", after := #[{ on := 2, ground := Ground.data }], guard := none }) (v := .int .i64 (n : Nat)) rfl (by kernel_rfl) (by kernel_rfl) (by kernel_rfl) (fun _ _ _ h => h) (Or.inl ⟨by rfl, ?_⟩) (SK.out _ tV) ?_
      · rintro w ⟨d0, s0, s1, s2, s3⟩
        go_simp
      simp only [Act.put, List.setIfInBounds_toArray, List.set_cons_zero, List.set_cons_succ]
      refine wpAnyH_take (i := 4) (oi := { dst := some 12, op := Op.binOp BinOp.gtr 3 (Operand.tmp 11) (Operand.const (Value.int IntKind.i64 0)) 3, type := 4, pos := "heads.go:52", after := #[{ on := 3, ground := Ground.data }], guard := none }) (v := .bool true) rfl (by kernel_rfl) (by kernel_rfl) (by kernel_rfl) (fun _ _ _ h => h) (Or.inl ⟨by rfl, ?_⟩) (SK.out _ tV) ?_
      · rintro w ⟨d0, s0, s1, s2, s3⟩
        go_simp
      simp only [Act.put, List.setIfInBounds_toArray, List.set_cons_zero, List.set_cons_succ]
      refine wpAnyH_take (i := 5) (oi := { dst := some 13, op := Op.move (Operand.tmp 12), type := 4, pos := "heads.go:52", after := #[{ on := 4, ground := Ground.data }], guard := none }) (v := .bool true) rfl (by kernel_rfl) (by kernel_rfl) (by kernel_rfl) (fun _ _ _ h => h) (Or.inl ⟨by rfl, ?_⟩) (SK.out _ tV) ?_
      · rintro w ⟨d0, s0, s1, s2, s3⟩
        go_simp
      simp only [Act.put, List.setIfInBounds_toArray, List.set_cons_zero, List.set_cons_succ]
      refine wpAnyH_take (i := 6) (oi := { dst := some 14, op := Op.move (Operand.tmp 0), type := 92, pos := "heads.go:52", after := #[{ on := 5, ground := Ground.guard }], guard := some (5, true) }) (v := .pointer (some ⟨p, o, none⟩)) rfl (by kernel_rfl) (by kernel_rfl) (by kernel_rfl) (fun _ _ _ h => h) (Or.inl ⟨by rfl, ?_⟩) (SK.out _ tV) ?_
      · rintro w ⟨d0, s0, s1, s2, s3⟩
        go_simp
      simp only [Act.put, List.setIfInBounds_toArray, List.set_cons_zero, List.set_cons_succ]
      refine wpAnyH_take (i := 7) (oi := { dst := some 15, op := Op.nilCheck (Operand.tmp 14), type := 0, pos := "heads.go:52", after := #[{ on := 6, ground := Ground.data }, { on := 5, ground := Ground.guard }], guard := some (5, true) }) (v := .pointer (some ⟨p, o, none⟩)) rfl (by kernel_rfl) (by kernel_rfl) (by kernel_rfl) (fun _ _ _ h => h) (Or.inl ⟨by rfl, ?_⟩) (SK.out _ tV) ?_
      · rintro w ⟨d0, s0, s1, s2, s3⟩
        go_simp
      simp only [Act.put, List.setIfInBounds_toArray, List.set_cons_zero, List.set_cons_succ]
      refine wpAnyH_take (i := 8) (oi := { dst := some 16, op := Op.load 86 (Operand.tmp 15), type := 86, pos := "heads.go:52", after := #[{ on := 7, ground := Ground.data }, { on := 5, ground := Ground.guard }], guard := some (5, true) }) (v := .slice (some ⟨g, 0, none⟩) n c) rfl (by kernel_rfl) (by kernel_rfl) (by kernel_rfl) (fun _ _ _ h => h) (Or.inl ⟨by rfl, ?_⟩) (SK.out _ tV) ?_
      · rintro w ⟨d0, s0, s1, s2, s3⟩
        go_simp
      simp only [Act.put, List.setIfInBounds_toArray, List.set_cons_zero, List.set_cons_succ]
      refine wpAnyH_take (i := 10) (oi := { dst := some 18, op := Op.load 29 (Operand.tmp 3), type := 29, pos := "heads.go:52", after := #[{ on := 5, ground := Ground.guard }], guard := some (5, true) }) (v := .agg #[.slice ka kn kc, .int .u64 (sq : Nat), .int .i64 kd, .slice va vn vc]) rfl (by kernel_rfl) (by kernel_rfl) (by kernel_rfl) (fun _ _ _ h => h) (Or.inl ⟨by rfl, ?_⟩) (SK.out _ tV) ?_
      · rintro w ⟨d0, s0, s1, s2, s3⟩
        go_simp
      simp only [Act.put, List.setIfInBounds_toArray, List.set_cons_zero, List.set_cons_succ]
      refine wpAnyH_ready (rs := [9]) (by kernel_rfl) (by simp) ?_
      refine AllReadyH.cons rfl (fun K hK => ?_) AllReadyH.nil
      go_simp
      refine (FI.out _ tV).mono ?_
      rintro oo Vn ⟨rfl, b2⟩
      have tN := Turns.of_below b2 (fun _ => False)
      have tV := tV.trans tN
      clear b2 FI
      clear tN
      go_simp
      refine hK.out _ _ (SK.out _ tV) (fun _ => ?_)
      clear hK K
      refine wpAnyH_ready (rs := [11]) (by kernel_rfl) (by simp) ?_
      refine AllReadyH.cons rfl (fun K hK => ?_) AllReadyH.nil
      go_simp
      refine (CP.out _ tV).mono ?_
      rintro oo Vn ⟨rfl, b2⟩
      have tN := Turns.of_below b2 (fun _ => False)
      have tV := tV.trans tN
      clear b2 CP
      clear tN
      go_simp
      refine hK.out _ _ (SK.out _ tV) (fun _ => ?_)
      clear hK K
      refine wpAnyH_take (i := 12) (oi := { dst := some 20, op := Op.binOp BinOp.eql 3 (Operand.tmp 19) (Operand.const (Value.int IntKind.i64 0)) 3, type := 4, pos := "heads.go:52", after := #[{ on := 11, ground := Ground.data }, { on := 5, ground := Ground.guard }], guard := some (5, true) }) (v := .bool (cv == 0)) rfl (by kernel_rfl) (by kernel_rfl) (by kernel_rfl) (fun _ _ _ h => h) (Or.inl ⟨by rfl, ?_⟩) (SK.out _ tV) ?_
      · rintro w ⟨d0, s0, s1, s2, s3⟩
        go_simp
      simp only [Act.put, List.setIfInBounds_toArray, List.set_cons_zero, List.set_cons_succ]
      refine wpAnyH_take (i := 13) (oi := { dst := some 21, op := Op.pick (Operand.tmp 13) (Operand.tmp 20) (Operand.const (Value.bool false)), type := 4, pos := "heads.go:52", after := #[{ on := 5, ground := Ground.data }, { on := 12, ground := Ground.data }], guard := none }) (v := .bool (cv == 0)) rfl (by kernel_rfl) (by kernel_rfl) (by kernel_rfl) (fun _ _ _ h => h) (Or.inl ⟨by rfl, ?_⟩) (SK.out _ tV) ?_
      · rintro w ⟨d0, s0, s1, s2, s3⟩
        go_simp
      simp only [Act.put, List.setIfInBounds_toArray, List.set_cons_zero, List.set_cons_succ]
      refine wpAnyH_done (by kernel_rfl) ?_ _
      have TV := hide tV
      clear tV
      by_cases hcv0 : cv = 0
      · subst hcv0
        go_wp2_with fail
        refine (AD.out _ TV.out).mono ?_
        rintro e w3 ⟨v2, L2, ⟨u, rfl⟩, hB2, hP2, hH2, hM2⟩
        have tt2 := tot_adv (L := T) HNE.out
        have hme := leftW_of B1.out
        have hm2 := leftW_of hB2
        have REL := hide (show ∃ (v1 : Value) (L1 : List Hd), HB S w3 p o t cs v1 L1 ∧ Hp.Heap ltH (hf L1) L1.length ∧ Went ye.en (h0 :: L) L1 ∧ (tot L1 < tot (h0 :: L) ∨ L1 = h0 :: L) ∧ Moved p v v1 w2 w3 by
          refine ⟨v2, L2, hB2, hH2, W1.out.step HU.out ?_ HNE.out hP2, .inl ?_, (M1.out.trans (Moved.quiet TV.out)).trans hM2⟩
          · rw [top_cons HZ.out]
            have := HCV.out
            rw [← HSQ.out] at this
            exact this
          · rw [tot_perm hP2]
            rcases LT.out with x | x
            · omega
            · rw [← x]; omega)
        have MEA := hide (show leftW p o w3 < leftW p o wr by rw [hm2, hme, tot_perm hP2]; omega)
        clear hB2 hP2 hH2 hM2 tt2 hme hm2
        go_wp2_with fail
        go_roundw
        case rel => exact REL.out
        case measure => exact MEA.out
      · have tQ := TV.out
        have hF := FIN.out Vn _ _ (B1.out.quiet tQ) (M1.out.trans (Moved.quiet tQ)) (tQ.heap RR.out (fun x => x))
        have hct : cmpE h1.top ye.en ≠ 0 := by
          rw [top_cons HZ.out]
          have := HCV.out
          rw [← HSQ.out] at this
          rw [show cmpE z.e.en ye.en = cv from this]
          exact hcv0
        have LT2 := hide (show tot (h1 :: T) < tot (h0 :: L) from LT.out.resolve_right fun e => by
          obtain ⟨e1, _⟩ := List.cons.inj e
          rw [e1, top_cons HY.out] at hct
          exact hct ((cmpE_zero _ _).2 ⟨rfl, rfl⟩))
        have HEND := hide (show ∀ h, h ∈ h1 :: T → cmpE h.top ye.en ≠ 0 from fun h hh => by
          have g1 := went_ge HU.out (by simp) HY.out (heap_first rfl HH.out) W1.out h1 (by simp) HNE.out
          have g2 := heap_first HT1.out.symm H1.out h hh
          unfold ltH at g2
          have q1 := cmpE_swap h1.top h.top
          have q2 := cmpE_swap ye.en h1.top
          have q3 := @cmpE_sub ye.en h1.top h.top g1 (by omega)
          have q4 := cmpE_swap ye.en h.top
          omega)
        clear hct
        have RR2 := hide (tQ.heap RR.out (fun x => x))
        have s0 := tQ.cell s0 (fun x => x)
        have s1 := tQ.cell s1 (fun x => x)
        have s2 := tQ.cell s2 (fun x => x)
        have s3 := tQ.cell s3 (fun x => x)
        have HF := hide hF
        clear hF tQ
        generalize Vn = V at *
        have y0 := frozen_of_row V K0 0 _ 29 RR2.out
        have y1 := frozen_of_row V K0 1 _ 29 RR2.out
        have y2 := frozen_of_row V K0 2 _ 29 RR2.out
        have y3 := frozen_of_row V K0 3 _ 29 RR2.out
        have x0 := cell_of_row V K0 0 _ 29 (0, 0) RR2.out
        have x1 := cell_of_row V K0 1 _ 29 (0, 0) RR2.out
        have x2 := cell_of_row V K0 2 _ 29 (0, 0) RR2.out
        have x3 := cell_of_row V K0 3 _ 29 (0, 0) RR2.out
        go_wp2_with fail
        have k1 := ((((Tick.refl RR2.out).set 0 (.slice ka kn kc)).set 1 (.int .u64 (sq : Nat))).set 2 (.int .i64 kd)).set 3 (.slice va vn vc)
        have k2 := HF.out _ _ k1
        refine bodyPost_ret (v := .agg #[.slice ka kn kc, .int .u64 (sq : Nat), .int .i64 kd, .slice va vn vc]) ?_ rfl ?_
        · exact results_cell_row Try.results73 _ _ _ _ _ _ _ rfl k1.1 Try.underlying29 rfl info29
        · exact ⟨by rw [HKA.out, HVA.out, HSQ.out, HKD.out], _, h1 :: T, k2.1, by rw [show (h1 :: T).length = n from HT1.out]; exact H1.out, W1.out, HEND.out, LT2.out, k2.2⟩
end Go.Proofs.Ytpgligfolecieaa

/-
  Rows of entries in memory, and their heads.
-/
namespace Go.Proofs.Ytpgligfolecieaa
open Go.RowKit
set_option maxRecDepth 100000
set_option maxHeartbeats 4000000
/-- A row: where it lies, and its entries. -/
structure Rw where
  a : Option Addr
  c : Nat
  R : List Tow
def Rw.v (x : Rw) : Value := .slice x.a x.R.length x.c
/-- A row that lies there. -/
structure RwOk (w : World) (x : Rw) : Prop where
  ents : Ents w x.a x.R
  cap : x.R.length ≤ x.c
  size : x.R.length ≤ 1000000
/-- Rows, one behind the other. -/
def RowsIn (w : World) (a : Option Addr) (rs : List Rw) : Prop := ∀ k x, rs[k]? = some x → (∃ b off, a = some ⟨b, off, none⟩ ∧ w.cell? ⟨b, off + k, none⟩ = some (.slice x.a x.R.length x.c)) ∧ RwOk w x
theorem RwOk.quiet {w w' : World} {x : Rw} (h : RwOk w x) (t : Turns (fun _ => False) w w') : RwOk w' x := ⟨h.ents.quiet t, h.cap, h.size⟩
theorem RowsIn.quiet {w w' : World} {a : Option Addr} {rs : List Rw} (h : RowsIn w a rs) (t : Turns (fun _ => False) w w') : RowsIn w' a rs := fun k x hx => by
  obtain ⟨⟨b, off, e, hc⟩, ho⟩ := h k x hx
  exact ⟨⟨b, off, e, t.cell hc (fun x => x)⟩, ho.quiet t⟩
def hdOf (x : Rw) (i : Nat) : Option Hd := match x.a, x.R with
  | some a, y :: r => some ⟨a.block, a.off, x.c, y :: r, i⟩
  | _, _ => none
def hds (rs : List Rw) : List Hd := rs.zipIdx.filterMap fun p => hdOf p.1 p.2
theorem hds_take {rs : List Rw} {i : Nat} {x : Rw} (h : rs[i]? = some x) : hds (rs.take (i + 1)) = hds (rs.take i) ++ (hdOf x i).toList := by
  have hi := (List.getElem?_eq_some_iff.1 h).1
  have e : rs.take (i + 1) = rs.take i ++ [x] := by rw [List.take_add_one, h]; rfl
  have hl : (rs.take i).length = i := by rw [List.length_take]; omega
  unfold hds
  rw [e, List.zipIdx_append, List.filterMap_append, hl, Nat.zero_add]
  congr 1
theorem hds_length (rs : List Rw) : (hds rs).length ≤ rs.length := by
  unfold hds
  refine Nat.le_trans (List.length_filterMap_le _ _) ?_
  simp
theorem hdOf_ok {w : World} {x : Rw} {i : Nat} {h : Hd} (hx : RwOk w x) (hi : i ≤ 1000000) (e : hdOf x i = some h) : HdOk w h ∧ h.R = x.R ∧ h.no = i ∧ x.a = some ⟨h.b, h.off, none⟩ ∧ h.c = x.c := by
  obtain ⟨a, c, R⟩ := x
  unfold hdOf at e
  split at e
  · next ad y r e1 e2 =>
    simp only at e1 e2
    subst e1 e2
    cases e
    obtain ⟨⟨b, off, e3, _⟩, _⟩ := hx.ents 0 y rfl
    cases e3
    exact ⟨⟨by simp, hx.ents, hx.cap, hx.size, hi⟩, rfl, rfl, rfl, rfl⟩
  · cases e
theorem hdOf_none {x : Rw} {i : Nat} (e : x.R = []) : hdOf x i = none := by
  unfold hdOf
  rw [e]
  split
  · next h => cases h
  · rfl
theorem hdOf_some {w : World} {x : Rw} {i : Nat} (hx : RwOk w x) (e : x.R ≠ []) : ∃ b off, x.a = some ⟨b, off, none⟩ ∧ hdOf x i = some ⟨b, off, x.c, x.R, i⟩ := by
  obtain ⟨a, c, R⟩ := x
  cases R with
  | nil => exact absurd rfl e
  | cons y r =>
    obtain ⟨⟨b, off, e3, _⟩, _⟩ := hx.ents 0 y rfl
    simp only at e3
    subst e3
    exact ⟨b, off, rfl, rfl⟩
theorem mem_hds {rs : List Rw} {h : Hd} : h ∈ hds rs ↔ ∃ i x, rs[i]? = some x ∧ hdOf x i = some h := by
  unfold hds
  simp only [List.mem_filterMap, Prod.exists]
  constructor
  · rintro ⟨x, i, h1, h2⟩
    exact ⟨i, x, List.mem_zipIdx_iff_getElem?.1 h1, h2⟩
  · rintro ⟨i, x, h1, h2⟩
    exact ⟨x, i, List.mem_zipIdx_iff_getElem?.2 h1, h2⟩
theorem headsOf_any (a : Option Addr) (n c : Nat) (rs : List Rw) (w : World) (h : RowsIn w a rs) (hn : n = rs.length) (hmx : n ≤ 1000000) :
    Calls Try.prog 72 #[.slice a n c] w fun e w' => ∃ v L p0, e = .returned v ∧ HB (fun k => w.heap.size ≤ k) w' p0 0 86 #[.slice none 0 0] v L ∧ L.Perm (hds rs) ∧ Hp.Heap ltH (hf L) L.length ∧ Below w.heap.size w w' := by
  have H0 := hide h
  have HN := hide hn
  have T0 := hide ((Turns.refl (fun _ => False) w).alloc (.cells #[.slice none 0 0] 86))
  have hb0 := heap_alloc_new w (.cells #[.slice none 0 0] 86)
  have hs0 : (w.alloc (.cells #[.slice none 0 0] 86)).heap.size = w.heap.size + 1 := by simp
  have HS0 := hide hs0
  have B0 := hide (show HB (fun k => w.heap.size ≤ k) (w.alloc (.cells #[.slice none 0 0] 86)) w.heap.size 0 86 #[.slice none 0 0] (.slice none 0 0) [] from
    ⟨hb0, by decide, Nat.le_refl _, fun k hk => by show w.heap.size ≤ k; omega, .inl ⟨rfl, rfl⟩, fun x hx => (by cases hx), by simp⟩)
  clear h hn hb0 hs0
  go_enter Try.func72, Try.ntmps72
  go_wp2_with fail
  generalize w.alloc (.cells #[.slice none 0 0] 86) = w0 at *
  generalize hp0 : w.heap.size = p0 at *
  have HP0 := hide hp0
  clear hp0
  go_loopw [8] (fun v8 wr => ∃ (i : Nat) (v : Value) (L : List Hd), v8 = .int .i64 (i : Nat) ∧ i ≤ n ∧ HB (fun k => p0 ≤ k) wr p0 0 86 #[.slice none 0 0] v L ∧ L.Perm (hds (rs.take i)) ∧ Hp.Heap ltH (hf L) L.length ∧ Moved p0 (.slice none 0 0) v w0 wr) (fun v8 _ => n - (intOf v8).toNat)
  case atStart => exact ⟨0, _, [], rfl, Nat.zero_le _, B0.out, .refl _, fun k _ hk => by simp at hk, Moved.quiet (Turns.refl _ _)⟩
  case round =>
    obtain ⟨i, v, L, rfl, hi, hB, hP, hH, hM⟩ := hrel
    have B1 := hide hB
    have P1 := hide hP
    have H1 := hide hH
    have M1 := hide hM
    have TW := hide (show Turns (fun _ => False) w wr from T0.out.andThen hM.1 fun k hk e => by
      have := HP0.out
      rcases e with e | ⟨_, _, e⟩
      · omega
      · cases e)
    have hcell := hB.cell
    obtain ⟨va, vn, vc, hv⟩ : ∃ a n c, v = .slice a n c := by
      rcases hB.row with ⟨e, _⟩ | ⟨g, c, e, _⟩
      · exact ⟨_, _, _, e⟩
      · exact ⟨_, _, _, e⟩
    subst hv
    clear hB hP hH hM
    by_cases hin : i < n
    · obtain ⟨x, hx⟩ : ∃ x, rs[i]? = some x := ⟨_, List.getElem?_eq_getElem (by have := HN.out; omega)⟩
      obtain ⟨⟨b, off, rfl, hc⟩, hok⟩ := H0.out i x hx
      have hc1 := TW.out.cell hc (fun x => x)
      have i1 : (i : Int) < n := by omega
      have i0 : (0 : Int) ≤ i := by omega
      have HX := hide hx
      have HOK := hide hok
      have hll := P1.out.length_eq
      have hl2 := hds_length (rs.take i)
      rw [List.length_take] at hl2
      have HLL := hide (show L.length < 1000000 by have := HN.out; omega)
      clear hx hok hc hll hl2
      by_cases he : x.R = []
      · rw [he] at hc1
        have E := hide (hdOf_none (i := i) he)
        clear he
        go_wp2_with fail
        go_roundw
        case rel => exact ⟨i + 1, _, L, by go_num, by omega, B1.out, by rw [hds_take HX.out, E.out]; simpa using P1.out, H1.out, M1.out⟩
        case measure => simp [intOf]; omega
      · obtain ⟨xb, xo, ha, hd⟩ := hdOf_some (i := i) HOK.out he
        have hok1 := (hdOf_ok HOK.out (by omega) hd).1
        have HQ := hide (hpush_any (fun k => p0 ≤ k) p0 0 86 #[.slice none 0 0] _ L ⟨xb, xo, x.c, x.R, i⟩ wr B1.out H1.out (hok1.quiet TW.out) (fun q hq => by have := hok1.lt hq; have := HP0.out; omega) HLL.out)
        have hlen : 0 < x.R.length := List.length_pos_iff.2 he
        have hleni : (0 : Int) < x.R.length := by omega
        rw [ha] at hc1
        have HD := hide hd
        clear he ha hd hok1
        obtain ⟨xa, xc, xR⟩ := x
        simp only at *
        generalize xR.length = xl at *
        go_wp2_with fail
        refine HQ.out.mono ?_
        rintro e w3 ⟨v', L', ⟨u, rfl⟩, hB3, hP3, hH3, hM3⟩
        have REL := hide (show HB (fun k => p0 ≤ k) w3 p0 0 86 #[.slice none 0 0] v' L' ∧ L'.Perm (hds (rs.take (i + 1))) ∧ Hp.Heap ltH (hf L') L'.length ∧ Moved p0 (.slice none 0 0) v' w0 w3 by
          refine ⟨hB3, hP3.trans ?_, hH3, M1.out.trans hM3⟩
          rw [hds_take HX.out, HD.out]
          exact P1.out.append_right _)
        clear hB3 hP3 hH3 hM3
        go_wp2_with fail
        go_roundw
        case rel => exact ⟨i + 1, v', L', by go_num, by omega, REL.out⟩
        case measure => simp [intOf]; omega
    · obtain rfl : i = n := by omega
      have FIN := hide (show HB (fun k => p0 ≤ k) wr p0 0 86 #[.slice none 0 0] (.slice va vn vc) L ∧ L.Perm (hds rs) ∧ Hp.Heap ltH (hf L) L.length ∧ Below p0 w wr by
        refine ⟨B1.out, ?_, H1.out, TW.out.below (by have := HP0.out; omega) (fun _ x => x.elim)⟩
        have := P1.out
        rw [HN.out, List.take_length] at this
        exact this)
      go_wp2_with fail
      go_ret
      rw [HP0.out]
      exact ⟨_, L, p0, rfl, FIN.out⟩
end Go.Proofs.Ytpgligfolecieaa

/-
  What 'merged' hands back tells the entries of all rows, merged.
-/
namespace Go.Proofs.Ytpgligfolecieaa
open Go.RowKit Go.Shelf
set_option maxRecDepth 100000
set_option maxHeartbeats 4000000
attribute [local go_sem] Oper.semAt_some
/-- The types of a merge's own cells. -/
def TM : TypeId → Prop := fun t => t = 86 ∨ t = 94
def IsM (W : World) (k : Nat) : Prop := ∃ cs t fr, TM t ∧ W.heap[k]? = some (.cells cs t fr)
/-- What whoever ranges over a merge may turn. -/
def KpM (B : Nat) (W W' : World) : Prop := Turns (fun k => B ≤ k ∧ ¬ IsM W k) W W'
theorem KpM.trans {B : Nat} {X Y Z : World} (h : KpM B X Y) (k : KpM B Y Z) : KpM B X Z := by
  refine ⟨k.os.trans h.os, k.tape.trans h.tape, k.output.trans h.output, Nat.le_trans h.size k.size, fun i hi hn => ?_⟩
  have h1 := h.block i hi hn
  refine (k.block i (Nat.lt_of_lt_of_le hi h.size) fun x => hn ⟨x.1, fun y => x.2 ?_⟩).trans h1
  obtain ⟨cs, t, fr, ht, e⟩ := y
  exact ⟨cs, t, fr, ht, h1.trans e⟩
theorem KpM.put {B : Nat} (W : World) (l : Nat) (o o' : Obj) (hB : B ≤ l) (hl : W.heap[l]? = some o) (ho : o.isCells = false) : KpM B W (W.putObj l o') :=
  (turns_put o' hl).mono fun k _ e => by
    subst e
    exact ⟨hB, fun ⟨cs, t, fr, _, x⟩ => by rw [hl] at x; cases x; cases ho⟩
theorem KpM.of {B : Nat} {S : Nat → Prop} {W W' : World} (h : Turns S W W') (hS : ∀ k, k < W.heap.size → S k → B ≤ k ∧ ¬ IsM W k) : KpM B W W' := h.mono hS
theorem HB.kept {B : Nat} {w w' : World} {p o : Nat} {cs : Array Value} {v : Value} {L : List Hd} (h : HB (fun k => B ≤ k) w p o 86 cs v L) (k : KpM B w w') : HB (fun k => B ≤ k) w' p o 86 cs v L := by
  refine h.keep k (fun x => x.2 ⟨_, _, _, .inl rfl, h.blk⟩) (fun i hi x => x.2 ?_) (fun i x => x.1)
  obtain ⟨n', c', e⟩ := hi
  rcases h.row with ⟨e1, _⟩ | ⟨g, c, e1, ⟨_, cs, hr, _⟩, _⟩
  · rw [e1] at e; cases e
  · rw [e1] at e; cases e; exact ⟨cs, 94, _, .inr rfl, hr⟩
/-- What an iterator turns of its own. -/
theorem Moved.mine {B p : Nat} {S : Nat → Prop} {v v' : Value} {w w' : World} {o : Nat} {cs : Array Value} {L : List Hd} (h : Moved p v v' w w') (hB : HB S w p o 86 cs v L) (h1 : B ≤ p) (h2 : ∀ k, inRow v k → B ≤ k) : Turns (Mine TM B w) w w' := h.1.mono fun k _ hk => by
  rcases hk with e | hk
  · subst e; exact ⟨h1, _, _, _, .inl rfl, hB.blk⟩
  · refine ⟨h2 k hk, ?_⟩
    obtain ⟨n', c', e⟩ := hk
    rcases hB.row with ⟨e1, _⟩ | ⟨g, c, e1, ⟨_, cs, hr, _⟩, _⟩
    · rw [e1] at e; cases e
    · rw [e1] at e; cases e; exact ⟨cs, 94, _, .inr rfl, hr⟩
/-! There is always something merged -/
theorem least : ∀ (L : List Hd), L ≠ [] → ∃ h0, h0 ∈ L ∧ ∀ h, h ∈ L → ¬ ltH h h0
  | [], h => absurd rfl h
  | [x], _ => ⟨x, by simp, fun h hh => by rw [List.mem_singleton.1 hh]; exact ltH_irr x⟩
  | x :: y :: r, _ => by
    obtain ⟨h0, hm, hmin⟩ := least (y :: r) (by simp)
    by_cases hl : ltH x h0
    · refine ⟨x, by simp, fun h hh => ?_⟩
      rcases List.mem_cons.1 hh with rfl | hh
      · exact ltH_irr h
      · exact ltH_tr x h0 h (ltH_asym _ _ hl) (hmin h hh)
    · refine ⟨h0, List.mem_cons_of_mem _ hm, fun h hh => ?_⟩
      rcases List.mem_cons.1 hh with rfl | hh
      · exact hl
      · exact hmin h hh
theorem tot_filterMap : ∀ d : List Hd, (∀ h, h ∈ d → h.R ≠ []) → tot (d.filterMap adv) + d.length = tot d
  | [], _ => rfl
  | h :: d, hne => by
    have ih := tot_filterMap d fun x hx => hne x (List.mem_cons_of_mem _ hx)
    have h1 := tot_adv (h := h) (L := d.filterMap adv) (hne h (by simp))
    have e : (h :: d).filterMap adv = (adv h).toList ++ d.filterMap adv := by
      cases e : adv h with
      | none => rw [List.filterMap_cons_none e]; rfl
      | some x => rw [List.filterMap_cons_some e]; rfl
    rw [e]
    simp only [tot, List.map_cons, List.sum_cons, List.length_cons] at *
    omega
theorem tot_append (a b : List Hd) : tot (a ++ b) = tot a + tot b := by simp [tot]
theorem Mg.exist : ∀ (n : Nat) (L : List Hd), tot L ≤ n → Up L → (∀ h, h ∈ L → h.R ≠ []) → ∃ xs, Mg L xs
  | n, L, hn, hu, hne => by
    by_cases hL : L = []
    · subst hL; exact ⟨[], Mg.nil⟩
    obtain ⟨h0, h0m, hmin⟩ := least L hL
    obtain ⟨y, r0, hy⟩ : ∃ y r, h0.R = y :: r := by
      cases e : h0.R with
      | nil => exact absurd e (hne h0 h0m)
      | cons y r => exact ⟨y, r, rfl⟩
    have hp : L.Perm (L.filter (fun h => cmpE h.top y.e.en = 0) ++ L.filter (fun h => ! decide (cmpE h.top y.e.en = 0))) := (List.filter_append_perm _ L).symm
    have hw : Went y.e.en L ((L.filter (fun h => cmpE h.top y.e.en = 0)).filterMap adv ++ L.filter (fun h => ! decide (cmpE h.top y.e.en = 0))) := ⟨_, _, hp, .refl _, fun h hh => by simpa using (List.mem_filter.1 hh).2⟩
    have hmem : h0 ∈ L.filter (fun h => cmpE h.top y.e.en = 0) := by
      refine List.mem_filter.2 ⟨h0m, ?_⟩
      rw [top_cons hy]
      simpa using (cmpE_zero y.e.en y.e.en).2 ⟨rfl, rfl⟩
    have htd := tot_filterMap (L.filter (fun h => cmpE h.top y.e.en = 0)) fun h hh => hne h (List.mem_filter.1 hh).1
    have htp := tot_perm hp
    rw [tot_append] at htp
    have hlen : 0 < (L.filter (fun h => cmpE h.top y.e.en = 0)).length := List.length_pos_iff.2 (List.ne_nil_of_mem hmem)
    cases n with
    | zero => omega
    | succ n =>
      obtain ⟨xs, hx⟩ := Mg.exist n _ (by rw [tot_append]; omega) (hu.went hw) (fun h hh => by
        rcases List.mem_append.1 hh with hm | hm
        · obtain ⟨a, _, e⟩ := List.mem_filterMap.1 hm
          exact (adv_some e).choose_spec.2.2
        · exact hne h (List.mem_filter.1 hm).1)
      refine ⟨y :: xs, Mg.step hu h0m hy hmin hw (fun h hh => ?_) hx⟩
      rcases List.mem_append.1 hh with hm | hm
      · obtain ⟨a, ha, e⟩ := List.mem_filterMap.1 hm
        obtain ⟨z, _, _, hz⟩ := adv_some e
        cases e2 : h.R with
        | nil => exact absurd e2 hz
        | cons b t =>
          have := adv_above (hu a (List.mem_filter.1 ha).1) e (by simpa using (List.mem_filter.1 ha).2) b (by rw [e2]; simp)
          rw [top_cons e2]
          have := cmpE_swap y.e.en b.e.en
          omega
      · simpa using (List.mem_filter.1 hm).2
/-- The entries of all rows. -/
def allOf (rs : List Rw) : List Tow := rs.flatMap (·.R)
def Tow.agg (x : Tow) : Value := .agg #[.slice x.ka x.e.key.length x.kc, .int .u64 (x.e.seq : Nat), .int .i64 x.e.kind, .slice x.va x.e.val.length x.vc]
end Go.Proofs.Ytpgligfolecieaa
