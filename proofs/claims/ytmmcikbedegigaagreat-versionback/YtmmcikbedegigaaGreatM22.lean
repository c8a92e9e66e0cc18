import Derived.Test.YtmmcikbedegigaaGreatM21
import Derived.Test.YtmmcikbedegigaaGreatM18
import Derived.Test.YtmmcikbedegigaaGreatM16
/-
  The reader of an edit: a file.
-/
namespace Go.Proofs.YtmmcikbedegigaaGreat
open Go.RowKit
set_option maxRecDepth 100000
set_option maxHeartbeats 4000000
theorem fileG_fin {g : GS} {x1 x2 x3 x4 : Nat} {l1 l2 : List (BitVec 8)} (h1 : ∀ q, numG g = some q → x1 = q.1) (h2 : ∀ q, numG (sndG (numG g)) = some q → x2 = q.1) (h3 : ∀ q, numG (sndG (numG (sndG (numG g)))) = some q → x3 = q.1) (h4 : ∀ q, numG (sndG (numG (sndG (numG (sndG (numG g)))))) = some q → x4 = q.1)
    (h5 : ∀ q, pieceG (sndG (numG (sndG (numG (sndG (numG (sndG (numG g)))))))) = some q → l1 = q.1) (h6 : ∀ q, pieceG (sndG (pieceG (sndG (numG (sndG (numG (sndG (numG (sndG (numG g)))))))))) = some q → l2 = q.1) :
    sndG (fileG g) = sndG (pieceG (sndG (pieceG (sndG (numG (sndG (numG (sndG (numG (sndG (numG g))))))))))) ∧ ∀ q, fileG g = some q → (⟨x1, (x2 : Int), l1, l2, (x3 : Int), x4⟩ : Fl) = q.1 := by
  unfold fileG
  cases e1 : numG g with
  | none => exact ⟨rfl, fun q hq => by cases hq⟩
  | some a =>
    rw [e1] at h1 h2 h3 h4 h5 h6
    have b1 := h1 a rfl
    simp only [sndG, Option.map_some, Option.bind_some] at *
    cases e2 : numG (some a.2) with
    | none => exact ⟨rfl, fun q hq => by cases hq⟩
    | some b =>
      rw [e2] at h2 h3 h4 h5 h6
      have b2 := h2 b rfl
      simp only [Option.map_some, Option.bind_some] at *
      cases e3 : numG (some b.2) with
      | none => exact ⟨rfl, fun q hq => by cases hq⟩
      | some c =>
        rw [e3] at h3 h4 h5 h6
        have b3 := h3 c rfl
        simp only [Option.map_some, Option.bind_some] at *
        cases e4 : numG (some c.2) with
        | none => exact ⟨rfl, fun q hq => by cases hq⟩
        | some d =>
          rw [e4] at h4 h5 h6
          have b4 := h4 d rfl
          simp only [Option.map_some, Option.bind_some] at *
          cases e5 : pieceG (some d.2) with
          | none => exact ⟨rfl, fun q hq => by cases hq⟩
          | some e =>
            rw [e5] at h5 h6
            have b5 := h5 e rfl
            simp only [Option.map_some, Option.bind_some] at *
            cases e6 : pieceG (some e.2) with
            | none => exact ⟨rfl, fun q hq => by cases hq⟩
            | some f =>
              have b6 := h6 f e6
              simp only [Option.map_some] at *
              refine ⟨trivial, fun q hq => ?_⟩
              cases hq
              rw [b1, b2, b3, b4, b5, b6]
/-- What reading a file does. -/
def FileG (w w' : World) (R Q : Nat) (p : List (BitVec 8)) (g : GS) (y : Tf) : Prop := FT w' w.heap.size y ∧ y.f.no ≤ 4611686018427387904 ∧ y.f.least.length ≤ 1048576 ∧ y.f.most.length ≤ 1048576 ∧ RdE w' R Q p (sndG (fileG g)) ∧ (∀ q, fileG g = some q → y.f = q.1) ∧ Turns (fun j => j = R ∨ j = Q) w w'
theorem RdE.lt {w : World} {R Q : Nat} {p : List (BitVec 8)} {g : GS} (h : RdE w R Q p g) : Q < R ∧ R < w.heap.size := by
  obtain ⟨i, e, f, h⟩ := h
  exact ⟨h.lt, lt_of_heap h.hR⟩
theorem RdE.alloc {w : World} {R Q : Nat} {p : List (BitVec 8)} {g : GS} (h : RdE w R Q p g) (o : Obj) : RdE (w.alloc o) R Q p g := h.keep (S := fun _ => False) ((Turns.refl _ _).alloc o) fun _ x => x.elim
theorem rfile_any (R Q : Nat) (p : List (BitVec 8)) (g : GS) (w : World) (h : RdE w R Q p g) (hp : p.length ≤ 1000000) :
    Calls Tryz.prog 38 #[.pointer (some ⟨R, 0, none⟩)] w fun en w' => ∃ y : Tf, en = .returned y.agg ∧ FileG w w' R Q p g y := by
  have n0 := heap_alloc_new w (.cells #[.int .u64 0, .int .i64 0, .slice none 0 0, .slice none 0 0, .int .i64 0, .int .u64 0] 49)
  have T0 := hide ((Turns.refl (fun j => j = R ∨ j = Q) w).alloc (.cells #[.int .u64 0, .int .i64 0, .slice none 0 0, .slice none 0 0, .int .i64 0, .int .u64 0] 49))
  have H0 := hide (h.alloc (.cells #[.int .u64 0, .int .i64 0, .slice none 0 0, .slice none 0 0, .int .i64 0, .int .u64 0] 49))
  have LT := hide h.lt
  have HP := hide hp
  have N0 := hide n0
  have HG := hide (show ¬ (w.heap.size = R ∨ w.heap.size = Q) by have := LT.out; omega)
  clear h hp n0
  go_enter Tryz.func38, Tryz.ntmps38
  go_wp2_with fail
  generalize hw0 : w.alloc (.cells #[.int .u64 0, .int .i64 0, .slice none 0 0, .slice none 0 0, .int .i64 0, .int .u64 0] 49) = w0 at *
  clear hw0
  refine (rnumber_any R Q p g w0 H0.out HP.out).mono ?_
  rintro en w1 ⟨x1, rfl, h1⟩
  have H1 := hide h1
  have T1 := hide (T0.out.trans h1.2.2.2)
  have N1 := hide (h1.2.2.2.heap N0.out HG.out)
  clear h1
  go_wp2_with fail
  refine (rinteger_any R Q p _ w1 H1.out.2.1 HP.out).mono ?_
  rintro en w2 ⟨x2, rfl, h2⟩
  have H2 := hide h2
  have T2 := hide (T1.out.trans h2.2.2.2)
  have N2 := hide (h2.2.2.2.heap N1.out HG.out)
  clear h2
  go_wp2_with fail
  refine (rinteger_any R Q p _ w2 H2.out.2.1 HP.out).mono ?_
  rintro en w3 ⟨x3, rfl, h3⟩
  have H3 := hide h3
  have T3 := hide (T2.out.trans h3.2.2.2)
  have N3 := hide (h3.2.2.2.heap N2.out HG.out)
  clear h3
  go_wp2_with fail
  refine (rnumber_any R Q p _ w3 H3.out.2.1 HP.out).mono ?_
  rintro en w4 ⟨x4, rfl, h4⟩
  have H4 := hide h4
  have T4 := hide (T3.out.trans h4.2.2.2)
  have N4 := hide (h4.2.2.2.heap N3.out HG.out)
  clear h4
  go_wp2_with fail
  refine (rpiece_any R Q p _ w4 H4.out.2.1 HP.out).mono ?_
  rintro en w5 ⟨la, lc, l1, rfl, h5⟩
  have H5 := hide h5
  have T5 := hide (T4.out.trans h5.2.2.2.2.2)
  have N5 := hide (h5.2.2.2.2.2.heap N4.out HG.out)
  clear h5
  go_wp2_with fail
  refine (rpiece_any R Q p _ w5 H5.out.2.2.2.1 HP.out).mono ?_
  rintro en w6 ⟨ma, mc, l2, rfl, h6⟩
  have H6 := hide h6
  have T6 := hide (T5.out.trans h6.2.2.2.2.2)
  have N6 := hide (h6.2.2.2.2.2.heap N5.out HG.out)
  have FIN := hide (fileG_fin H1.out.2.2.1 H2.out.2.2.1 H3.out.2.2.1 H4.out.2.2.1 H5.out.2.2.2.2.1 H6.out.2.2.2.2.1)
  have s0 : w.heap.size ≤ w4.heap.size := T4.out.size
  have s1 : w.heap.size ≤ w5.heap.size := T5.out.size
  have BL := hide (H5.out.1.turns (H6.out.2.2.2.2.2) fun x n c e => (by cases e; have h7 := (H5.out.2.2.1 _ rfl).1; have := LT.out; show ¬ (x.block = R ∨ x.block = Q); omega))
  have NL := hide (show NB w6 w.heap.size la from fun x e => by obtain ⟨q1, cs, z, q2⟩ := H5.out.2.2.1 x e; exact ⟨by omega, cs, z, H6.out.2.2.2.2.2.heap q2 (by have := LT.out; omega)⟩)
  have NM := hide (show NB w6 w.heap.size ma from fun x e => by obtain ⟨q1, cs, z, q2⟩ := H6.out.2.2.1 x e; exact ⟨by omega, cs, z, q2⟩)
  have BM := hide H6.out.1
  have hne : ∀ x, la = some x → x.block ≠ w.heap.size := fun x e => by have h7 := (H5.out.2.2.1 x e).1; have h8 := lt_of_heap N4.out; omega
  have hne2 : ∀ x, ma = some x → x.block ≠ w.heap.size := fun x e => by have h7 := (H6.out.2.2.1 x e).1; have h8 := lt_of_heap N5.out; omega
  have HNE := hide hne
  have HNE2 := hide hne2
  have HX1 := hide H1.out.1
  have HL1 := hide H5.out.2.1
  have HL2 := hide H6.out.2.1
  have HRD := hide H6.out.2.2.2.1
  clear h6 hne hne2 s0 s1
  clear H0 H1 H2 H3 H4 H5 H6 N0 N1 N2 N3 N4 N5 T0 T1 T2 T3 T4 T5
  generalize hLL1 : l1.length = L1 at *
  generalize hLL2 : l2.length = L2 at *
  have E1 := hide hLL1
  have E2 := hide hLL2
  clear hLL1 hLL2
  generalize hG : w.heap.size = G at *
  have EG := hide hG
  clear hG
  go_wp2_with (refine wpList_store_row rfl 49 _ _ rfl _ _ rfl rfl _ _ N6.out ?_ ?_ ?_ ?_; (exact sz37); (simp only [List.size_toArray, List.length_cons, List.length_nil]); (simp [Value.oneCell']))
  have tr : Turns (fun j => j = G) w6 (w6.setRow G #[.int .u64 (x1 : Nat), .int .i64 (x2 : Nat), .slice la L1 lc, .slice ma L2 mc, .int .i64 (x3 : Nat), .int .u64 (x4 : Nat)]) := ⟨rfl, rfl, rfl, by simp, fun k _ hk => setRow_other _ _ _ _ hk⟩
  refine bodyPost_ret (v := .agg #[.int .u64 (x1 : Nat), .int .i64 (x2 : Nat), .slice la L1 lc, .slice ma L2 mc, .int .i64 (x3 : Nat), .int .u64 (x4 : Nat)]) ?_ rfl ?_
  · exact results_cell_row Tryz.results38 _ _ _ _ _ _ _ rfl (setRow_heap _ _ _ _ _ _ N6.out) Tryz.underlying49 rfl sz37
  · refine ⟨⟨la, lc, ma, mc, ⟨x1, (x2 : Nat), l1, l2, (x3 : Nat), x4⟩⟩, by simp only [Tf.agg]; rw [E1.out, E2.out], ⟨⟨?_, ?_⟩, fun x e => ?_, fun x e => ?_⟩, HX1.out, by have := HL1.out; simp only; rw [E1.out]; exact this, by have := HL2.out; simp only; rw [E2.out]; exact this, ?_, FIN.out.2, T6.out.andThen tr fun j hj e => by have := EG.out; omega⟩
    · have hb := BL.out
      simp only
      rw [E1.out]
      exact hb.turns tr (fun a n c e => by cases e; exact HNE.out _ rfl)
    · have hb := BM.out
      simp only
      rw [E2.out]
      exact hb.turns tr (fun a n c e => by cases e; exact HNE2.out _ rfl)
    · obtain ⟨q1, cs, z, q2⟩ := NL.out x e
      exact ⟨by have := EG.out; omega, cs, z, tr.heap q2 (HNE.out x e)⟩
    · obtain ⟨q1, cs, z, q2⟩ := NM.out x e
      exact ⟨by have := EG.out; omega, cs, z, tr.heap q2 (HNE2.out x e)⟩
    · rw [FIN.out.1]
      refine HRD.out.keep tr fun k e => ?_
      have := LT.out
      have := EG.out
      omega
end Go.Proofs.YtmmcikbedegigaaGreat

/-
  Parse.
-/
namespace Go.Proofs.YtmmcikbedegigaaGreat
open Go.RowKit
set_option maxRecDepth 100000
set_option maxHeartbeats 4000000
section
variable {α : Type} {f : GS → Option (α × List (BitVec 8))}
theorem rep_snd (hf : f none = none) (k : Nat) (g : GS) : sndG (repG f (k + 1) g) = sndG (f (sndG (repG f k g))) := by
  show sndG ((repG f k g).bind _) = _
  cases repG f k g with
  | none => simp only [sndG, Option.bind_none, Option.map_none, hf]
  | some q =>
    simp only [sndG, Option.bind_some, Option.map_some]
    cases f (some q.2) <;> rfl
theorem rep_val {k : Nat} {g : GS} {L : List α} {d : α} (h1 : ∀ q, repG f k g = some q → L = q.1) (h2 : ∀ q, f (sndG (repG f k g)) = some q → d = q.1) : ∀ q, repG f (k + 1) g = some q → L ++ [d] = q.1 := fun q hq => by
  have hq' : ((repG f k g).bind fun q => (f (some q.2)).map fun d => (q.1 ++ [d.1], d.2)) = some q := hq
  cases hk : repG f k g with
  | none => rw [hk] at hq'; cases hq'
  | some q0 =>
    rw [hk] at hq'
    simp only [Option.bind_some, Option.map_eq_some_iff] at hq'
    obtain ⟨d0, hd, rfl⟩ := hq'
    rw [h1 q0 hk, h2 d0 (by rw [hk]; exact hd)]
end
theorem dropG_fin {g : GS} {x y : Nat} (h1 : ∀ q, numG g = some q → x = q.1) (h2 : ∀ q, numG (sndG (numG g)) = some q → y = q.1) : sndG (dropG g) = sndG (numG (sndG (numG g))) ∧ ∀ q, dropG g = some q → ((x : Int), y) = q.1 := by
  unfold dropG
  cases e1 : numG g with
  | none => exact ⟨rfl, fun q hq => by cases hq⟩
  | some a =>
    rw [e1] at h2
    have b1 := h1 a e1
    simp only [sndG, Option.map_some, Option.bind_some] at *
    cases e2 : numG (some a.2) with
    | none => exact ⟨rfl, fun q hq => by cases hq⟩
    | some b =>
      have b2 := h2 b e2
      simp only [Option.map_some] at *
      exact ⟨trivial, fun q hq => by cases hq; rw [b1, b2]⟩
theorem addG_fin {g : GS} {x : Nat} {y : Fl} (h1 : ∀ q, numG g = some q → x = q.1) (h2 : ∀ q, fileG (sndG (numG g)) = some q → y = q.1) : sndG (addG g) = sndG (fileG (sndG (numG g))) ∧ ∀ q, addG g = some q → ((x : Int), y) = q.1 := by
  unfold addG
  cases e1 : numG g with
  | none => exact ⟨rfl, fun q hq => by cases hq⟩
  | some a =>
    rw [e1] at h2
    have b1 := h1 a e1
    simp only [sndG, Option.map_some, Option.bind_some] at *
    cases e2 : fileG (some a.2) with
    | none => exact ⟨rfl, fun q hq => by cases hq⟩
    | some b =>
      have b2 := h2 b e2
      simp only [Option.map_some] at *
      exact ⟨trivial, fun q hq => by cases hq; rw [b1, b2]⟩
theorem parse_fin {p : List (BitVec 8)} {x1 x2 x3 n1 n2 : Nat} {D : List (Int × Nat)} {A : List AddF} {g1 g2 g3 g4 g5 g6 g7 : GS} (e1 : g1 = sndG (numG (some p))) (e2 : g2 = sndG (numG g1)) (e3 : g3 = sndG (numG g2)) (e4 : g4 = sndG (cntG g3)) (e5 : g5 = sndG (repG dropG n1 g4)) (e6 : g6 = sndG (cntG g5)) (e7 : g7 = sndG (repG addG n2 g6))
    (h1 : ∀ q, numG (some p) = some q → x1 = q.1) (h2 : ∀ q, numG g1 = some q → x2 = q.1) (h3 : ∀ q, numG g2 = some q → x3 = q.1) (h4 : ∀ q, cntG g3 = some q → n1 = q.1) (h5 : ∀ q, repG dropG n1 g4 = some q → D = q.1) (h6 : ∀ q, cntG g5 = some q → n2 = q.1) (h7 : ∀ q, repG addG n2 g6 = some q → A = q.1) (q : (Nat × Nat × Nat) × List (Int × Nat) × List AddF) (hq : parseG p = some q) : g7 = some [] ∧ q = ((x1, x2, x3), D, A) := by
  unfold parseG numsG countG at hq
  simp only [Option.bind_eq_some_iff, Option.map_eq_some_iff] at hq
  obtain ⟨a, ⟨a1, ha1, a2, ha2, a3, ha3, rfl⟩, b, ⟨b0, hb0, hb⟩, c, ⟨c0, hc0, hc⟩, hif⟩ := hq
  have k1 : g1 = some a1.2 := by rw [e1, ha1]; rfl
  have k2 : g2 = some a2.2 := by rw [e2, k1, ha2]; rfl
  have k3 : g3 = some a3.2 := by rw [e3, k2, ha3]; rfl
  have k4 : g4 = some b0.2 := by rw [e4, k3, hb0]; rfl
  have v4 := h4 b0 (by rw [k3]; exact hb0)
  have k5 : g5 = some b.2 := by rw [e5, k4, v4, hb]; rfl
  have k6 : g6 = some c0.2 := by rw [e6, k5, hc0]; rfl
  have v6 := h6 c0 (by rw [k5]; exact hc0)
  have k7 : g7 = some c.2 := by rw [e7, k6, v6, hc]; rfl
  split at hif
  · rename_i hn
    cases hif
    refine ⟨by rw [k7, hn], ?_⟩
    rw [h1 a1 ha1, h2 a2 (by rw [k1]; exact ha2), h3 a3 (by rw [k2]; exact ha3), h5 b (by rw [k4, v4]; exact hb), h7 c (by rw [k6, v6]; exact hc)]
  · cases hif
theorem rd_ty {w : World} {R Q : Nat} {p : List (BitVec 8)} {g : GS} (h : RdE w R Q p g) {x : Nat} (hx : x = R ∨ x = Q) : ∃ cs ty, w.heap[x]? = some (.cells cs ty (0, 0)) ∧ (ty = 79 ∨ ty = 114) := by
  obtain ⟨i, e, f, h⟩ := h
  rcases hx with rfl | rfl
  · exact ⟨_, _, h.hR, .inl rfl⟩
  · obtain ⟨a, c, h1, _⟩ := h.rdr
    exact ⟨_, _, h1, .inr rfl⟩
theorem rd_ne {w : World} {R Q : Nat} {p : List (BitVec 8)} {g : GS} (h : RdE w R Q p g) {x : Nat} {cs : Array Value} {ty : TypeId} {z : Nat × Nat} (hx : w.heap[x]? = some (.cells cs ty z)) (h1 : ty ≠ 79) (h2 : ty ≠ 114) : ¬ (x = R ∨ x = Q) := fun e => by
  obtain ⟨cs', ty', h3, h4⟩ := rd_ty h e
  rw [hx] at h3
  cases h3
  exact h4.elim h1 h2
theorem po_read {w w' : World} {R Q : Nat} {p : List (BitVec 8)} {g : GS} {B og oc N1 N2 N3 next seq log : Nat} {ds : List (Nat × Nat)} {D : List (Int × Nat)} {es : List (Nat × Nat)} {A : List (Int × Tf)} (h : PO w B og oc N1 N2 N3 next seq log ds D es A) (k : RdE w R Q p g) (t : Turns (fun j => j = R ∨ j = Q) w w') : PO w' B og oc N1 N2 N3 next seq log ds D es A := h.keep t fun x hx => by
  obtain ⟨cs, ty, h3, h4⟩ := rd_ty k hx
  rcases h4 with rfl | rfl
  · exact ⟨alien_of h3 (by decide), h.ne h3 (by decide)⟩
  · exact ⟨alien_of h3 (by decide), h.ne h3 (by decide)⟩
/-- What Parse answers of an edit's bytes. -/
def ParsedAs (w' : World) (v : Value) (q : (Nat × Nat × Nat) × List (Int × Nat) × List AddF) : Prop :=
  ∃ da dn dc sa sn sc A, v = edAgg da dn dc sa sn sc q.1.1 q.1.2.1 q.1.2.2 ∧ dn = q.2.1.length ∧ Drops w' da q.2.1 ∧ sn = List.length A ∧ fA A = q.2.2 ∧ Adds w' sa A
def zE : Obj := .cells #[.slice none 0 0, .slice none 0 0, .int .u64 0, .int .u64 0, .int .u64 0] 33
/-- How far the drops, or the adds, have come. -/
structure Lp (w wr : World) (R Q G n : Nat) (p : List (BitVec 8)) (g : GS) (og oc N1 N2 N3 next seq log : Nat) (ds : List (Nat × Nat)) (D : List (Int × Nat)) (es : List (Nat × Nat)) (A : List (Int × Tf)) : Prop where
  po : PO wr (R + 1) og oc N1 N2 N3 next seq log ds D es A
  rd : RdE wr R Q p g
  len : n = 1 + ds.length + es.length
  zero : wr.heap[G]? = some zE
  turn : Turns (fun j => w.heap.size ≤ j) w wr
  dlt : ∀ d ∈ D, d.2 < 18446744073709551616
end Go.Proofs.YtmmcikbedegigaaGreat

/-
  Parse: the walk.
-/
namespace Go.Proofs.YtmmcikbedegigaaGreat
open Go.RowKit
set_option maxRecDepth 100000
set_option maxHeartbeats 4000000
theorem lp_read {w wr w' : World} {R Q G n : Nat} {p : List (BitVec 8)} {g g' : GS} {og oc N1 N2 N3 next seq log : Nat} {ds : List (Nat × Nat)} {D : List (Int × Nat)} {es : List (Nat × Nat)} {A : List (Int × Tf)} (h : Lp w wr R Q G n p g og oc N1 N2 N3 next seq log ds D es A) (hQ : w.heap.size ≤ Q) (k : RdE w' R Q p g') (t : Turns (fun j => j = R ∨ j = Q) wr w') : Lp w w' R Q G n p g' og oc N1 N2 N3 next seq log ds D es A :=
  ⟨po_read h.po h.rd t, k, h.len, t.heap h.zero (rd_ne h.rd h.zero (by decide) (by decide)), h.turn.trans (t.mono fun j _ e => by have := h.rd.lt; omega), h.dlt⟩
theorem lp_quiet {w wr w' : World} {R Q G n : Nat} {p : List (BitVec 8)} {g : GS} {og oc N1 N2 N3 next seq log : Nat} {ds : List (Nat × Nat)} {D : List (Int × Nat)} {es : List (Nat × Nat)} {A : List (Int × Tf)} (h : Lp w wr R Q G n p g og oc N1 N2 N3 next seq log ds D es A) (t : Turns (fun _ => False) wr w') : Lp w w' R Q G n p g og oc N1 N2 N3 next seq log ds D es A :=
  ⟨h.po.keep t fun _ x => x.elim, h.rd.keep t fun _ x => x.elim, h.len, t.heap h.zero (fun x => x), h.turn.trans (t.mono fun _ _ x => x.elim), h.dlt⟩
theorem lp_drop {w wr : World} {R Q G n : Nat} {p : List (BitVec 8)} {g : GS} {og oc N1 N2 N3 next seq log : Nat} {ds : List (Nat × Nat)} {D : List (Int × Nat)} (h : Lp w wr R Q G n p g og oc N1 N2 N3 next seq log ds D [] []) (hW : w.heap.size ≤ Q) (hlen : ds.length ≤ 100000) (pp : Nat × Nat) (d : Int × Nat) (hd : d.2 < 18446744073709551616) (gb cy : Nat) (hgb : wr.heap[gb]? = some (.cells #[dropOpt pp] 81 (0, 0))) (hp : wr.heap[pp.1]? = some (.cells #[.int .i64 d.1] 3 (0, 0)) ∧ wr.heap[pp.2]? = some (.cells #[.int .u64 (d.2 : Nat)] 25 (0, 0))) :
    ∃ (og' n' oc' : Nat) (w' : World), (∀ ty, (Builtin.append_ #[84, 84] ty #[.slice (some ⟨og, 0, none⟩) n oc, .slice (some ⟨gb, 0, none⟩) 1 cy]).run Tryz.prog wr = .ok (.slice (some ⟨og', 0, none⟩) n' oc') w') ∧ Lp w w' R Q G n' p g og' oc' N1 N2 N3 next seq log (ds ++ [pp]) (D ++ [d]) [] [] := by
  have hn : n = 1 + ds.length := h.len
  have hR := h.rd.lt
  obtain ⟨og', n', oc', w', hr, hn', hpo, t⟩ := po_drop h.po (by omega) hlen pp d gb cy hgb hp
  obtain ⟨cs, hog⟩ := h.po.heap
  have hlt := h.po.hog
  refine ⟨og', n', oc', w', by rw [hn]; exact hr, hpo, h.rd.keep t fun k e => by omega, hn', t.heap h.zero (fun e => by rw [← e, h.zero] at hog; cases hog), h.turn.trans (t.mono fun j _ e => by omega), fun e he => ?_⟩
  rcases List.mem_append.1 he with h1 | h1
  · exact h.dlt e h1
  · obtain rfl := List.mem_singleton.1 h1; exact hd
theorem lp_add {w wr : World} {R Q G n : Nat} {p : List (BitVec 8)} {g : GS} {og oc N1 N2 N3 next seq log : Nat} {ds : List (Nat × Nat)} {D : List (Int × Nat)} {es : List (Nat × Nat)} {A : List (Int × Tf)} (h : Lp w wr R Q G n p g og oc N1 N2 N3 next seq log ds D es A) (hW : w.heap.size ≤ Q) (hlen : ds.length + es.length ≤ 100000) (pp : Nat × Nat) (d : Int × Tf) (gb cy : Nat) (hgb : wr.heap[gb]? = some (.cells #[addOpt pp] 81 (0, 0))) (x : Option Addr) (c : Nat) (hp : wr.heap[pp.1]? = some (.cells #[.slice x 1 c] 53 (0, 0)) ∧ wr.heap[pp.2]? = some (.cells #[.int .i64 d.1] 3 (0, 0))) (hx : RowOk wr (R + 1) x c [d.2]) (hf : FT wr (R + 1) d.2) :
    ∃ (og' n' oc' : Nat) (w' : World), (∀ ty, (Builtin.append_ #[84, 84] ty #[.slice (some ⟨og, 0, none⟩) n oc, .slice (some ⟨gb, 0, none⟩) 1 cy]).run Tryz.prog wr = .ok (.slice (some ⟨og', 0, none⟩) n' oc') w') ∧ Lp w w' R Q G n' p g og' oc' N1 N2 N3 next seq log ds D (es ++ [pp]) (A ++ [d]) := by
  have hn := h.len
  have hR := h.rd.lt
  obtain ⟨og', n', oc', w', hr, hn', hpo, t⟩ := po_add h.po (by omega) hlen pp d gb cy hgb x c hp hx hf
  obtain ⟨cs, hog⟩ := h.po.heap
  have hlt := h.po.hog
  exact ⟨og', n', oc', w', by rw [hn]; exact hr, hpo, h.rd.keep t fun k e => by omega, hn', t.heap h.zero (fun e => by rw [← e, h.zero] at hog; cases hog), h.turn.trans (t.mono fun j _ e => by omega), h.dlt⟩
/-- An edit's value. -/
def IsEd (v : Value) : Prop := ∃ da dn dc sa sn sc y1 y2 y3, v = edAgg da dn dc sa sn sc y1 y2 y3
theorem parse_any (a : Option Addr) (n c : Nat) (p : List (BitVec 8)) (w : World) (h : Bytes w (.slice a n c) p) (hn : n ≤ 1000000) :
    Calls Tryz.prog 10 #[.slice a n c] w fun e w' => Turns (fun _ => False) w w' ∧ ∃ (v : Value) (z : Int), e = .returned (.tuple #[v, .int .i64 z]) ∧ IsEd v ∧ ∀ q, parseG p = some q → z = 0 ∧ ParsedAs w' v q := by
  have n0 := hide (heap_alloc_new w zE)
  have T0 := hide ((Turns.refl (fun j => w.heap.size ≤ j) w).alloc zE)
  have H0 := hide (h.quiet ((Turns.refl (fun _ => False) w).alloc zE))
  have hp : p.length ≤ 1000000 := by have := h.len; omega
  have HP := hide hp
  have S0 := hide (show (w.alloc zE).heap.size = w.heap.size + 1 by simp)
  clear h hp
  unfold zE at n0 T0 H0 S0
  go_enter Tryz.func10, Tryz.ntmps10
  go_wp2_with fail
  generalize w.alloc (.cells #[.slice none 0 0, .slice none 0 0, .int .u64 0, .int .u64 0, .int .u64 0] 33) = w0 at *
  refine (new_any a n c p w0 H0.out hn).mono ?_
  rintro en w1 ⟨Q, rfl, hQ, hrd, b1⟩
  have t1 : Turns (fun _ => False) w0 w1 := Turns.of_below b1 _
  have ta : Turns (fun _ => False) w1 (w1.alloc (.cells #[.pointer (some ⟨Q, 0, none⟩), .int .i64 0] 79)) := (Turns.refl _ _).alloc _
  have RD := hide (show RdE (w1.alloc (.cells #[.pointer (some ⟨Q, 0, none⟩), .int .i64 0] 79)) w1.heap.size Q p (some p) from ⟨0, 0, 0, heap_alloc_new w1 _, hrd.turns ta fun x => x, Nat.zero_le _, (by obtain ⟨_, _, hq, _⟩ := hrd; exact lt_of_heap hq), fun l hl => ⟨rfl, rfl, by cases hl; rfl⟩, fun hh => (by cases hh)⟩)
  have N1 := hide ((t1.trans ta).heap n0.out (fun x => x))
  have T1 := hide (T0.out.trans ((t1.trans ta).mono fun _ _ x => x.elim))
  have HQ := hide (show w.heap.size + 1 ≤ Q by have := S0.out; omega)
  clear hQ hrd b1 t1 ta H0 n0 T0
  go_wp2_with fail
  generalize w1.alloc (.cells #[.pointer (some ⟨Q, 0, none⟩), .int .i64 0] 79) = w2 at *
  generalize w1.heap.size = R at *
  clear S0
  refine (rnumber_any R Q p _ w2 RD.out HP.out).mono ?_
  rintro en w3 ⟨x1, rfl, hx1⟩
  have X1 := hide hx1
  have NZ3 := hide (hx1.2.2.2.heap N1.out (rd_ne RD.out N1.out (by decide) (by decide)))
  have T3 := hide (T1.out.trans (hx1.2.2.2.mono fun j _ e => by have := RD.out.lt; have := HQ.out; omega))
  clear hx1 T1 N1
  go_wp2_with fail
  refine (rnumber_any R Q p _ w3 X1.out.2.1 HP.out).mono ?_
  rintro en w4 ⟨x2, rfl, hx2⟩
  have X2 := hide hx2
  have NZ4 := hide (hx2.2.2.2.heap NZ3.out (rd_ne X1.out.2.1 NZ3.out (by decide) (by decide)))
  have T4 := hide (T3.out.trans (hx2.2.2.2.mono fun j _ e => by have := RD.out.lt; have := HQ.out; omega))
  clear hx2 T3 NZ3
  go_wp2_with fail
  refine (rnumber_any R Q p _ w4 X2.out.2.1 HP.out).mono ?_
  rintro en w5 ⟨x3, rfl, hx3⟩
  have X3 := hide hx3
  have NZ5 := hide (hx3.2.2.2.heap NZ4.out (rd_ne X2.out.2.1 NZ4.out (by decide) (by decide)))
  have T5 := hide (T4.out.trans (hx3.2.2.2.mono fun j _ e => by have := RD.out.lt; have := HQ.out; omega))
  clear hx3 T4 NZ4
  go_wp2_with fail
  refine (numbered_any x1 x2 x3 w5).mono ?_
  rintro en w6 ⟨rfl, hN1, hN2, hN3, t6⟩
  generalize w5.heap.size = N1 at *
  have ta : Turns (fun _ => False) w6 (w6.alloc (.cells #[numOpt N1 (N1 + 1) (N1 + 2)] 81)) := (Turns.refl _ _).alloc _
  have LP := hide (show Lp w (w6.alloc (.cells #[numOpt N1 (N1 + 1) (N1 + 2)] 81)) R Q w.heap.size 1 p (sndG (numG (sndG (numG (sndG (numG (some p))))))) w6.heap.size 1 N1 (N1 + 1) (N1 + 2) x1 x2 x3 [] [] [] [] from
    ⟨⟨⟨rfl, rfl, ta.heap hN1 (fun x => x), ta.heap hN2 (fun x => x), ta.heap hN3 (fun x => x), fun k q d hq => (by simp at hq), fun k q d hq => (by simp at hq), fun d hd => (by simp at hd)⟩, ⟨_, heap_alloc_new w6 _, Nat.le_refl _, fun k hk => by
      simp only [List.map_nil, List.append_nil, List.length_cons, List.length_nil] at hk
      obtain rfl : k = 0 := by omega
      rfl⟩, by simp, by have := X3.out.2.1.lt; have := t6.size; omega⟩, X3.out.2.1.keep (t6.trans ta) fun _ x => x.elim, rfl, (t6.trans ta).heap NZ5.out (fun x => x), T5.out.trans ((t6.trans ta).mono fun _ _ x => x.elim), fun d hd => (by simp at hd)⟩)
  clear hN1 hN2 hN3 t6 ta NZ5 T5
  unfold numOpt at LP
  go_wp2_with fail
  generalize hw7 : w6.alloc (.cells #[.func (.func 63) #[] #[.pointer (some ⟨N1, 0, none⟩), .pointer (some ⟨N1 + 1, 0, none⟩), .pointer (some ⟨N1 + 2, 0, none⟩)]] 81) = w7 at *
  clear hw7
  generalize w6.heap.size = og0 at *
  refine (rcount_any R Q p _ w7 LP.out.rd HP.out).mono ?_
  rintro en w8 ⟨n1, rfl, hc1⟩
  have C1 := hide hc1
  have hn1 : (n1 : Int) ≤ 10000 := by have := hc1.1; omega
  have LP8 := hide (lp_read LP.out (by have := HQ.out; omega) hc1.2.1 hc1.2.2.2.2)
  clear hc1 LP
  generalize hg4 : sndG (cntG (sndG (numG (sndG (numG (sndG (numG (some p)))))))) = g4 at *
  have G4 := hide hg4
  clear hg4
  go_wp2_with fail
  go_loopw [5, 21] (fun sv iv wr => ∃ (k m og oc : Nat) (ds : List (Nat × Nat)) (D : List (Int × Nat)), sv = .slice (some ⟨og, 0, none⟩) m oc ∧ iv = .int .i64 (k : Nat) ∧ k ≤ n1 ∧ ds.length = k ∧ Lp w wr R Q w.heap.size m p (sndG (repG dropG k g4)) og oc N1 (N1 + 1) (N1 + 2) x1 x2 x3 ds D [] [] ∧ (∀ q, repG dropG k g4 = some q → D = q.1)) (fun _ iv _ => n1 - (intOf iv).toNat)
  case atStart =>
    refine ⟨0, 1, og0, 1, [], [], rfl, rfl, Nat.zero_le _, rfl, ?_, fun q hq => ?_⟩
    · have e : sndG (repG dropG 0 g4) = g4 := by cases g4 <;> rfl
      rw [e]
      exact LP8.out
    · simp only [repG, Option.map_eq_some_iff] at hq
      obtain ⟨r, _, rfl⟩ := hq
      rfl
  case round =>
    obtain ⟨k, m, og, oc, ds, D, rfl, rfl, hk, hds, hlp, hval⟩ := hrel
    have HL := hide hlp
    have HV := hide hval
    have HDS := hide hds
    clear hlp hval hds
    by_cases hkn : k < n1
    · have i1 : (k : Int) < n1 := by omega
      have i0 : (0 : Int) ≤ k := by omega
      go_wp2_with fail
      refine (rinteger_any R Q p _ wr HL.out.rd HP.out).mono ?_
      rintro en u1 ⟨y1, rfl, hy1⟩
      have Y1 := hide hy1
      have L1 := hide (lp_read HL.out (by have := HQ.out; omega) hy1.2.1 hy1.2.2.2)
      have hy1b := hy1.1
      clear hy1
      go_wp2_with fail
      refine (rnumber_any R Q p _ u1 L1.out.rd HP.out).mono ?_
      rintro en u2 ⟨y2, rfl, hy2⟩
      have Y2 := hide hy2
      have L2 := hide (lp_read L1.out (by have := HQ.out; omega) hy2.2.1 hy2.2.2.2)
      clear hy2 L1
      go_wp2_with fail
      refine (dropping_any (y1 : Nat) y2 u2).mono ?_
      rintro en u3 ⟨rfl, hp1, hp2, t3⟩
      generalize u2.heap.size = P1 at *
      have ta : Turns (fun _ => False) u3 (u3.alloc (.cells #[dropOpt (P1, P1 + 1)] 81)) := (Turns.refl _ _).alloc _
      have L3 := hide (lp_quiet L2.out (t3.trans ta))
      have FD := hide (dropG_fin Y1.out.2.2.1 Y2.out.2.2.1)
      obtain ⟨og', n', oc', u4, hr, hl4⟩ := lp_drop L3.out (by have := HQ.out; omega) (by have := HDS.out; have := C1.out.1; omega) (P1, P1 + 1) ((y1 : Int), y2) (by have := Y2.out.1; simp only; omega) u3.heap.size 1 (heap_alloc_new u3 _) ⟨ta.heap hp1 (fun x => x), ta.heap hp2 (fun x => x)⟩
      have HA := hide hr
      have REL := hide (show (ds ++ [(P1, P1 + 1)]).length = k + 1 ∧ Lp w u4 R Q w.heap.size n' p (sndG (repG dropG (k + 1) g4)) og' oc' N1 (N1 + 1) (N1 + 2) x1 x2 x3 (ds ++ [(P1, P1 + 1)]) (D ++ [((y1 : Int), y2)]) [] [] ∧ (∀ q, repG dropG (k + 1) g4 = some q → D ++ [((y1 : Int), y2)] = q.1) from
        ⟨by rw [List.length_append, HDS.out]; rfl, by rw [rep_snd rfl, FD.out.1]; exact hl4, rep_val HV.out FD.out.2⟩)
      clear hr hl4 L2 L3 t3 ta hp1 hp2
      unfold dropOpt at HA
      go_wp2_with (at_builtin; refine wpList_append_run rfl (.tmp 23) (.tmp 29) 84 rfl (.slice (some ⟨og, 0, none⟩) m oc) (.slice (some ⟨u3.heap.size, 0, none⟩) 1 1) rfl rfl _ _ (HA.out _) ?_)
      go_roundw
      case rel => exact ⟨k + 1, n', og', oc', _, _, rfl, by go_num, by omega, REL.out⟩
      case measure => simp [intOf]; omega
    · obtain rfl : k = n1 := by omega
      have HL9 := hide HL.out
      clear HL
      generalize hw9 : wr = w9 at *
      clear hw9
      clear LP8
      generalize hg5 : sndG (repG dropG k g4) = g5 at *
      have G5 := hide hg5
      clear hg5
      go_wp2_with fail
      refine (rcount_any R Q p _ w9 HL9.out.rd HP.out).mono ?_
      rintro en w10 ⟨n2, rfl, hc2⟩
      have C2 := hide hc2
      have hn2 : (n2 : Int) ≤ 10000 := by have := hc2.1; omega
      have LP10 := hide (lp_read HL9.out (by have := HQ.out; omega) hc2.2.1 hc2.2.2.2.2)
      clear hc2 HL9
      generalize hg6 : sndG (cntG g5) = g6 at *
      have G6 := hide hg6
      clear hg6
      go_wp2_with fail
      go_loopw [5, 34] (fun sv iv wr => ∃ (j m og oc : Nat) (es : List (Nat × Nat)) (A : List (Int × Tf)), sv = .slice (some ⟨og, 0, none⟩) m oc ∧ iv = .int .i64 (j : Nat) ∧ j ≤ n2 ∧ es.length = j ∧ Lp w wr R Q w.heap.size m p (sndG (repG addG j g6)) og oc N1 (N1 + 1) (N1 + 2) x1 x2 x3 ds D es A ∧ (∀ q, repG addG j g6 = some q → fA A = q.1)) (fun _ iv _ => n2 - (intOf iv).toNat)
      case atStart =>
        refine ⟨0, m, og, oc, [], [], rfl, rfl, Nat.zero_le _, rfl, ?_, fun q hq => ?_⟩
        · have e : sndG (repG addG 0 g6) = g6 := by cases g6 <;> rfl
          rw [e]
          exact LP10.out
        · simp only [repG, Option.map_eq_some_iff] at hq
          obtain ⟨r, _, rfl⟩ := hq
          rfl
      case round =>
        obtain ⟨j, m, og, oc, es, A, rfl, rfl, hj, hes, hlp, hval⟩ := hrel
        have HL := hide hlp
        have HV2 := hide hval
        have HES := hide hes
        clear hlp hval hes
        by_cases hjn : j < n2
        · have i1 : (j : Int) < n2 := by omega
          have i0 : (0 : Int) ≤ j := by omega
          go_wp2_with fail
          refine (rinteger_any R Q p _ wr HL.out.rd HP.out).mono ?_
          rintro en u1 ⟨y1, rfl, hy1⟩
          have Y1 := hide hy1
          have L1 := hide (lp_read HL.out (by have := HQ.out; omega) hy1.2.1 hy1.2.2.2)
          clear hy1
          go_wp2_with fail
          refine (rfile_any R Q p _ u1 L1.out.rd HP.out).mono ?_
          rintro en u2 ⟨y, rfl, hy2⟩
          have Y2 := hide hy2
          have L2 := hide (lp_read L1.out (by have := HQ.out; omega) hy2.2.2.2.2.1 hy2.2.2.2.2.2.2)
          have FTY := hide (hy2.1.mono (show R + 1 ≤ u1.heap.size by have := L1.out.rd.lt; omega))
          have FD := hide (addG_fin Y1.out.2.2.1 hy2.2.2.2.2.2.1)
          clear hy2 L1
          obtain ⟨la, lc, ma, mc, ⟨no, sz, ls, ms, en', sq⟩⟩ := y
          have ta : Turns (fun _ => False) u2 (u2.alloc (.cells #[.int .u64 (no : Nat), .int .i64 sz, .slice la ls.length lc, .slice ma ms.length mc, .int .i64 en', .int .u64 (sq : Nat)] 49)) := (Turns.refl _ _).alloc _
          have L3 := hide (lp_quiet L2.out ta)
          have ROW := hide (show RowOk (u2.alloc (.cells #[.int .u64 (no : Nat), .int .i64 sz, .slice la ls.length lc, .slice ma ms.length mc, .int .i64 en', .int .u64 (sq : Nat)] 49)) (R + 1) (some ⟨u2.heap.size, 0, none⟩) 1 [⟨la, lc, ma, mc, ⟨no, sz, ls, ms, en', sq⟩⟩] from .inr ⟨u2.heap.size, rfl, by have := L2.out.rd.lt; omega, Nat.le_refl _, _, heap_alloc_new u2 _, Nat.le_refl _, fun k hk => by
            have ef : flCells [⟨la, lc, ma, mc, ⟨no, sz, ls, ms, en', sq⟩⟩] = [.int .u64 (no : Nat), .int .i64 sz, .slice la ls.length lc, .slice ma ms.length mc, .int .i64 en', .int .u64 (sq : Nat)] := by simp only [flCells, List.flatMap_cons, List.flatMap_nil, List.append_nil]; rfl
            rw [ef]
            exact List.getElem?_toArray⟩)
          have FTZ := hide (FTY.out.quiet ta)
          clear ta FTY L2 Y2
          unfold Tf.agg
          simp only at *
          generalize hyt : (⟨la, lc, ma, mc, ⟨no, sz, ls, ms, en', sq⟩⟩ : Tf) = yt at *
          have HYT := hide hyt
          clear hyt
          generalize ls.length = L1 at *
          generalize ms.length = L2 at *
          go_wp2_with fail
          generalize hu3 : u2.alloc (.cells #[.int .u64 (no : Nat), .int .i64 sz, .slice la L1 lc, .slice ma L2 mc, .int .i64 en', .int .u64 (sq : Nat)] 49) = u3 at *
          clear hu3
          generalize u2.heap.size = X at *
          refine (adding_any (y1 : Nat) (some ⟨X, 0, none⟩) 1 1 u3).mono ?_
          rintro en u4 ⟨rfl, hp2, hp1, t4⟩
          generalize u3.heap.size = P1 at *
          have ta : Turns (fun _ => False) u4 (u4.alloc (.cells #[addOpt (P1 + 1, P1)] 81)) := (Turns.refl _ _).alloc _
          have L4 := hide (lp_quiet L3.out (t4.trans ta))
          obtain ⟨og', n', oc', u5, hr, hl4⟩ := lp_add L4.out (by have := HQ.out; omega) (by have := HES.out; have := HDS.out; have := C1.out.1; have := C2.out.1; omega) (P1 + 1, P1) ((y1 : Int), yt) u4.heap.size 1 (heap_alloc_new u4 _) (some ⟨X, 0, none⟩) 1 ⟨ta.heap hp1 (fun x => x), ta.heap hp2 (fun x => x)⟩ (ROW.out.keep (t4.trans ta) fun _ _ x => x) (FTZ.out.quiet (t4.trans ta))
          have HA := hide hr
          have REL := hide (show (es ++ [(P1 + 1, P1)]).length = j + 1 ∧ Lp w u5 R Q w.heap.size n' p (sndG (repG addG (j + 1) g6)) og' oc' N1 (N1 + 1) (N1 + 2) x1 x2 x3 ds D (es ++ [(P1 + 1, P1)]) (A ++ [((y1 : Int), yt)]) ∧ (∀ q, repG addG (j + 1) g6 = some q → fA (A ++ [((y1 : Int), yt)]) = q.1) from
            ⟨by rw [List.length_append, HES.out]; rfl, by rw [rep_snd rfl, FD.out.1]; exact hl4, by
              have e : fA (A ++ [((y1 : Int), yt)]) = fA A ++ [((y1 : Int), (⟨no, sz, ls, ms, en', sq⟩ : Fl))] := by unfold fA; rw [List.map_append, ← HYT.out]; rfl
              rw [e]
              exact rep_val HV2.out FD.out.2⟩)
          clear hr hl4 L3 L4 t4 ta hp1 hp2
          unfold addOpt at HA
          go_wp2_with (at_builtin; refine wpList_append_run rfl (.tmp 36) (.tmp 43) 84 rfl (.slice (some ⟨og, 0, none⟩) m oc) (.slice (some ⟨u4.heap.size, 0, none⟩) 1 1) rfl rfl _ _ (HA.out _) ?_)
          go_roundw
          case rel => exact ⟨j + 1, n', og', oc', _, _, rfl, by go_num, by omega, REL.out⟩
          case measure => simp [intOf]; omega
        · obtain rfl : j = n2 := by omega
          have HL9 := hide HL.out
          clear HL
          generalize hw11 : wr = w11 at *
          clear hw11 LP10
          generalize hg7 : sndG (repG addG j g6) = g7 at *
          have G7 := hide hg7
          clear hg7
          have FIN := hide (fun q hq => parse_fin (p := p) rfl rfl rfl (by rw [G4.out]) G5.out.symm G6.out.symm G7.out.symm X1.out.2.2.1 X2.out.2.2.1 X3.out.2.2.1 C1.out.2.2.1 HV.out C2.out.2.2.1 HV2.out q hq)
          go_wp2_with fail
          refine (rend_any R Q p _ w11 HL9.out.rd HP.out).mono ?_
          rintro en w12 ⟨z, rfl, hz, t12⟩
          have HZ := hide hz
          have PO12 := hide (po_read HL9.out.po HL9.out.rd t12)
          have Z12 := hide (t12.heap HL9.out.zero (rd_ne HL9.out.rd HL9.out.zero (by decide) (by decide)))
          have T12 := hide (HL9.out.turn.trans (t12.mono fun j _ e => by have := HL9.out.rd.lt; have := HQ.out; omega))
          have HM := hide HL9.out.len
          have DLT := hide HL9.out.dlt
          have HR12 := hide (show R + 1 ≤ w12.heap.size by have := HL9.out.rd.lt; have := t12.size; omega)
          clear hz t12 HL9
          unfold zE at Z12
          by_cases hz0 : z = 0
          · subst hz0
            have HZZ := hide (HZ.out.1 rfl)
            go_wp2_with fail
            refine (editOf_po og oc N1 (N1 + 1) (N1 + 2) x1 x2 x3 (R + 1) ds D es A m w12 PO12.out HM.out HR12.out (by have := HES.out; have := HDS.out; have := C1.out.1; have := C2.out.1; omega)).mono ?_
            rintro en w13 ⟨da, dn, dc, sa, sn, sc, rfl, hdl, hgr, hal, har, hft, t13⟩
            have GR := hide hgr
            have AR := hide har
            have FT13 := hide hft
            have HDL := hide hdl
            have HAL := hide hal
            have Z13 := hide (t13.heap Z12.out (fun x => x))
            have T13 := hide (T12.out.trans (t13.mono fun _ _ x => x.elim))
            clear hdl hgr hal har hft t13
            have d0 := cell_of_row w13 w.heap.size 0 _ 33 (0, 0) Z13.out
            have d1 := cell_of_row w13 w.heap.size 1 _ 33 (0, 0) Z13.out
            have d2 := cell_of_row w13 w.heap.size 2 _ 33 (0, 0) Z13.out
            have d3 := cell_of_row w13 w.heap.size 3 _ 33 (0, 0) Z13.out
            have d4 := cell_of_row w13 w.heap.size 4 _ 33 (0, 0) Z13.out
            have f0 := frozen_of_row w13 w.heap.size 0 _ 33 Z13.out
            have f1 := frozen_of_row w13 w.heap.size 1 _ 33 Z13.out
            have f2 := frozen_of_row w13 w.heap.size 2 _ 33 Z13.out
            have f3 := frozen_of_row w13 w.heap.size 3 _ 33 Z13.out
            have f4 := frozen_of_row w13 w.heap.size 4 _ 33 Z13.out
            have TK := hide (((((Tick.refl Z13.out).set 0 (.slice da dn dc)).set 1 (.slice sa sn sc)).set 2 (.int .u64 (x1 : Nat))).set 3 (.int .u64 (x2 : Nat)) |>.set 4 (.int .u64 (x3 : Nat)))
            unfold edAgg
            go_wp2_with fail
            refine bodyPost_ret (v := .tuple #[.agg #[.slice da dn dc, .slice sa sn sc, .int .u64 (x1 : Nat), .int .u64 (x2 : Nat), .int .u64 (x3 : Nat)], .int .i64 0]) ?_ rfl ?_
            · exact results_cell_tmp Tryz.results10 _ _ _ _ _ _ _ _ rfl rfl TK.out.1 Tryz.underlying33 rfl sz33w
            · have u := Turns.of_tick TK.out
              refine ⟨(T13.out.andThen u fun j hj e => by omega).mono fun j hj e => by omega, _, 0, rfl, ⟨da, dn, dc, sa, sn, sc, x1, x2, x3, rfl⟩, fun q hq => ⟨rfl, ?_⟩⟩
              obtain ⟨_, rfl⟩ := FIN.out q hq
              refine ⟨da, dn, dc, sa, sn, sc, A, rfl, HDL.out, (GR.out.keep u fun q e e2 => GR.out.ne Z13.out (by decide) q e e2).drops DLT.out, HAL.out, rfl, (AR.out.keep u fun q e e2 => AR.out.ne Z13.out (by decide) q e e2).adds fun d hd => ((FT13.out d hd).keep u fun q e _ cs z hz => by subst e; rw [Z13.out] at hz; cases hz).fb⟩
          · have hz1 : (z == 0) = false := by simpa using hz0
            have HNO := hide (show ∀ q, ¬ parseG p = some q from fun q hq => hz0 (HZ.out.2 (FIN.out q hq).1))
            have d0 := cell_of_row w12 w.heap.size 0 _ 33 (0, 0) Z12.out
            have d1 := cell_of_row w12 w.heap.size 1 _ 33 (0, 0) Z12.out
            have d2 := cell_of_row w12 w.heap.size 2 _ 33 (0, 0) Z12.out
            have d3 := cell_of_row w12 w.heap.size 3 _ 33 (0, 0) Z12.out
            have d4 := cell_of_row w12 w.heap.size 4 _ 33 (0, 0) Z12.out
            have f0 := frozen_of_row w12 w.heap.size 0 _ 33 Z12.out
            have f1 := frozen_of_row w12 w.heap.size 1 _ 33 Z12.out
            have f2 := frozen_of_row w12 w.heap.size 2 _ 33 Z12.out
            have f3 := frozen_of_row w12 w.heap.size 3 _ 33 Z12.out
            have f4 := frozen_of_row w12 w.heap.size 4 _ 33 Z12.out
            have TK := hide (((((Tick.refl Z12.out).set 0 (.slice none 0 0)).set 1 (.slice none 0 0)).set 2 (.int .u64 0)).set 3 (.int .u64 0) |>.set 4 (.int .u64 0))
            clear hz0
            go_wp2_with fail
            refine bodyPost_ret (v := .tuple #[.agg #[.slice none 0 0, .slice none 0 0, .int .u64 0, .int .u64 0, .int .u64 0], .int .i64 z]) ?_ rfl ?_
            · exact results_cell_tmp Tryz.results10 _ _ _ _ _ _ _ _ rfl rfl TK.out.1 Tryz.underlying33 rfl sz33w
            · have u := Turns.of_tick TK.out
              exact ⟨(T12.out.andThen u fun j hj e => by omega).mono fun j hj e => by omega, _, z, rfl, ⟨none, 0, 0, none, 0, 0, 0, 0, 0, rfl⟩, fun q hq => absurd hq (HNO.out q)⟩
end Go.Proofs.YtmmcikbedegigaaGreat
