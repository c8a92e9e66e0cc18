import Derived.Test.YtjklbhdhjfifhaaGreatM30
import Derived.Deep.RegionLaw
import Derived.Laws.MakeOwn
import Derived.Laws.Cover3
import Derived.Deep.Cut
import Derived.Deep.CutRange
import Derived.Handy
/-
  The head of a frame, as it is made.
-/
namespace Go.Proofs.YtjklbhdhjfifhaaGreat
open Go.RowKit

theorem size5 : (Tryz.prog.info? 5).map (·.size) = some 1 := by kernel_rfl
set_option maxRecDepth 100000 in
set_option maxHeartbeats 1000000 in
theorem headOf_any (k : BitVec 8) (a : Option Addr) (n c : Nat) (hn : n ≤ 1048576) (w : World) :
    Calls Tryz.prog 155 #[.agg #[.int .u8 k.toNat, .slice a n c]] w
      fun e w' => ∃ h0 h1 h2 h3 h4 h5 h6 h7 : BitVec 8, Fr.headB k n = [h0, h1, h2, h3, h4, h5, h6, h7] ∧ e = .returned (.agg #[.int .u8 h0.toNat, .int .u8 h1.toNat, .int .u8 h2.toNat, .int .u8 h3.toNat, .int .u8 h4.toNat, .int .u8 h5.toNat, .int .u8 h6.toNat, .int .u8 h7.toNat]) ∧ Below w.heap.size w w' := by
  have e1 : (n : Int) % (256 : Int) = ((BitVec.ofNat 8 n).toNat : Int) := by rw [BitVec.toNat_ofNat]; omega
  have e2 : (n : Int) / (256 : Int) % (256 : Int) = ((BitVec.ofNat 8 (n / 256)).toNat : Int) := by rw [BitVec.toNat_ofNat]; omega
  have e3 : (n : Int) / (65536 : Int) = ((BitVec.ofNat 8 (n / 65536)).toNat : Int) := by rw [BitVec.toNat_ofNat]; omega
  have hp : Fr.plain k n = [k, BitVec.ofNat 8 n, BitVec.ofNat 8 (n / 256), BitVec.ofNat 8 (n / 65536)] := rfl
  generalize BitVec.ofNat 8 n = p1 at *
  generalize BitVec.ofNat 8 (n / 256) = p2 at *
  generalize BitVec.ofNat 8 (n / 65536) = p3 at *
  have E := hide (And.intro e1 (And.intro e2 e3))
  have HP := hide hp
  clear e1 e2 e3 hp
  go_enter Tryz.func155, Tryz.ntmps155
  go_wp2_with fail
  rw [E.out.1, E.out.2.1, E.out.2.2]
  generalize hw0 : ((w.alloc (.cells #[.int .u8 k.toNat, .slice a n c] 135)).alloc (.cells #[.int .u8 0, .int .u8 0, .int .u8 0, .int .u8 0, .int .u8 0, .int .u8 0, .int .u8 0, .int .u8 0] 192)).alloc (.cells #[.int .u8 k.toNat, .int .u8 p1.toNat, .int .u8 p2.toNat, .int .u8 p3.toNat, .int .u8 0, .int .u8 0, .int .u8 0, .int .u8 0] 192) = w0
  have hb0 : Below w.heap.size w w0 := by
    rw [← hw0]
    exact (((Below.refl _ _).alloc (Nat.le_refl _) _).alloc (by simp) _).alloc (by simp; omega) _
  have hs0 : w0.heap.size = w.heap.size + 3 := by rw [← hw0]; simp
  have h1 : w0.heap[w.heap.size + 1]? = some (.cells #[.int .u8 0, .int .u8 0, .int .u8 0, .int .u8 0, .int .u8 0, .int .u8 0, .int .u8 0, .int .u8 0] 192 (0, 0)) := by
    rw [← hw0, heap_alloc_old _ _ (by simp), heap_alloc2_new]
  have h2 : w0.heap[w.heap.size + 1 + 1]? = some (.cells #[.int .u8 k.toNat, .int .u8 p1.toNat, .int .u8 p2.toNat, .int .u8 p3.toNat, .int .u8 0, .int .u8 0, .int .u8 0, .int .u8 0] 192 (0, 0)) := by
    rw [← hw0]
    have := heap_alloc2_new (w.alloc (.cells #[.int .u8 k.toNat, .slice a n c] 135)) (.cells #[.int .u8 0, .int .u8 0, .int .u8 0, .int .u8 0, .int .u8 0, .int .u8 0, .int .u8 0, .int .u8 0] 192) (.cells #[.int .u8 k.toNat, .int .u8 p1.toNat, .int .u8 p2.toNat, .int .u8 p3.toNat, .int .u8 0, .int .u8 0, .int .u8 0, .int .u8 0] 192)
    simpa using this
  clear hw0
  refine (sumOf_x _ [k, p1, p2, p3] _ (row_bytes (bs := [k, p1, p2, p3]) h2 0 8 (fun j hj => by
    have : j = 0 ∨ j = 1 ∨ j = 2 ∨ j = 3 := by simp at hj; omega
    rcases this with rfl | rfl | rfl | rfl <;> rfl)) (four_max _ _ _ _)).mono ?_
  rintro e w1 ⟨s0, s1, s2, s3, hs, rfl, b1⟩
  have g1 := (b1.block _ (by omega)).trans h1
  have g2 := (b1.block _ (by omega)).trans h2
  have hs1 := b1.size
  have B1 := hide (then_below hb0 b1 (Nat.le_refl _))
  have G1 := hide g1
  have G2 := hide g2
  have HS := hide hs
  clear g1 g2 h1 h2 hb0 b1 hs
  go_wp2_with fail
  generalize hg : w.heap.size = g at *
  have hnew := heap_alloc_new w1 (.cells #[.int .u8 s0.toNat, .int .u8 s1.toNat, .int .u8 s2.toNat, .int .u8 s3.toNat] 188)
  have g1 : (w1.alloc (.cells #[.int .u8 s0.toNat, .int .u8 s1.toNat, .int .u8 s2.toNat, .int .u8 s3.toNat] 188)).heap[g + 1]? = _ := (heap_alloc_old _ _ (by omega)).trans G1.out
  have g2 : (w1.alloc (.cells #[.int .u8 s0.toNat, .int .u8 s1.toNat, .int .u8 s2.toNat, .int .u8 s3.toNat] 188)).heap[g + 1 + 1]? = _ := (heap_alloc_old _ _ (by omega)).trans G2.out
  have b2 := B1.out.alloc (by omega) (.cells #[.int .u8 s0.toNat, .int .u8 s1.toNat, .int .u8 s2.toNat, .int .u8 s3.toNat] 188)
  generalize w1.alloc (.cells #[.int .u8 s0.toNat, .int .u8 s1.toNat, .int .u8 s2.toNat, .int .u8 s3.toNat] 188) = w2 at *
  have H3 := hide hnew
  have H1 := hide g1
  have H2 := hide g2
  have B2 := hide b2
  clear hnew g1 g2 b2 B1 G1 G2
  have hsrc : ∀ j v, [Value.int .u8 s0.toNat, .int .u8 s1.toNat, .int .u8 s2.toNat, .int .u8 s3.toNat][j]? = some v → w2.drew.cell? ((⟨w1.heap.size, 0, none⟩ : Addr).add j) = some v := by
    intro j v hv
    rw [Go.WideShapes.add_plain, Nat.zero_add, cell_of_row w2.drew w1.heap.size j _ 188 (0, 0) H3.out, List.getElem?_toArray]
    exact hv
  have hone : ∀ v ∈ [Value.int .u8 s0.toNat, .int .u8 s1.toNat, .int .u8 s2.toNat, .int .u8 s3.toNat], v.oneCell' = true := by
    intro v hv
    simp only [List.mem_cons, List.not_mem_nil, or_false] at hv
    rcases hv with rfl | rfl | rfl | rfl <;> rfl
  have hfit : 4 + [Value.int .u8 s0.toNat, .int .u8 s1.toNat, .int .u8 s2.toNat, .int .u8 s3.toNat].length ≤ [Value.int .u8 k.toNat, .int .u8 p1.toNat, .int .u8 p2.toNat, .int .u8 p3.toNat, .int .u8 0, .int .u8 0, .int .u8 0, .int .u8 0].length := Nat.le_refl 8
  have SRC := hide hsrc
  have ONE := hide hone
  have FIT := hide hfit
  clear hsrc hone hfit
  go_region_law (refine step_copy_splice rfl (.tmp 22) (.tmp 23) 28 28 rfl 5 Tryz.underlying28 size5 _ _ _ _ _ _ rfl rfl (g + 1 + 1) 4 [.int .u8 k.toNat, .int .u8 p1.toNat, .int .u8 p2.toNat, .int .u8 p3.toNat, .int .u8 0, .int .u8 0, .int .u8 0, .int .u8 0] 192 H2.out [.int .u8 s0.toNat, .int .u8 s1.toNat, .int .u8 s2.toNat, .int .u8 s3.toNat] rfl (fun _ => ⟨rfl, _, rfl, SRC.out⟩) FIT.out ONE.out (g + 1 + 1) w2.drew (Below.refl _ _) (Nat.le_refl _) ?_; intro w4 hg4 hb4)
  have G4 : Hid (w4.heap[g + 1 + 1]? = some (.cells #[.int .u8 k.toNat, .int .u8 p1.toNat, .int .u8 p2.toNat, .int .u8 p3.toNat, .int .u8 s0.toNat, .int .u8 s1.toNat, .int .u8 s2.toNat, .int .u8 s3.toNat] 192 (0, 0))) := hg4.out
  have G1 : Hid (w4.heap[g + 1]? = some (.cells #[.int .u8 0, .int .u8 0, .int .u8 0, .int .u8 0, .int .u8 0, .int .u8 0, .int .u8 0, .int .u8 0] 192 (0, 0))) := (hb4.block _ (by omega)).trans H1.out
  have B4 := hide (B2.out.drew.trans (hb4.mono (by omega)))
  clear hg4 hb4 H1 H2 H3 SRC ONE FIT B2
  go_wp2_with (first | (refine wpList_load_row rfl 192 _ rfl _ rfl _ _ _ _ G4.out Tryz.underlying192 rfl ?_ ?_; exact info47) | (refine wpList_store_row rfl 192 _ _ rfl _ _ rfl rfl _ _ G1.out ?_ ?_ ?_ ?_; (exact info47); (simp only [List.size_toArray, List.length_cons, List.length_nil]); (simp [Value.oneCell'])))
  refine bodyPost_ret (v := .agg #[.int .u8 k.toNat, .int .u8 p1.toNat, .int .u8 p2.toNat, .int .u8 p3.toNat, .int .u8 s0.toNat, .int .u8 s1.toNat, .int .u8 s2.toNat, .int .u8 s3.toNat]) ?_ rfl ?_
  · exact results_cell_row Tryz.results155 _ _ _ _ _ _ _ rfl (setRow_heap _ _ _ _ _ _ G1.out) Tryz.underlying192 rfl info47
  · refine ⟨k, p1, p2, p3, s0, s1, s2, s3, ?_, rfl, ?_⟩
    · unfold Fr.headB
      rw [HP.out, HS.out]
      simp only [List.cons_append, List.nil_append]
    · rw [hg]
      exact below_setRow B4.out (by omega) _
end Go.Proofs.YtjklbhdhjfifhaaGreat

/-
  Copies of bytes (Own, bytes.Clone), new rows, and a frame that is too long.
-/
namespace Go.Proofs.YtjklbhdhjfifhaaGreat
open Go.RowKit

theorem eqnil (a : Addr) (n c : Nat) (w : World) : (binOp .eql 28 (.slice (some a) n c) (.slice none 0 0)).run Tryz.prog w = .ok (.bool false) w := by kernel_rfl
set_option maxHeartbeats 400000 in
theorem cloneF_any (a : Addr) (n c0 : Nat) (bs : List (BitVec 8)) (hn0 : n = bs.length) (w : World) (h : Bytes w (.slice (some a) n c0) bs) (hn : bs.length ≤ 140737488355328) :
    Calls Tryz.prog 47 #[.slice (some a) n c0] w fun e w' => ∃ g c, e = .returned (.slice (some ⟨g, 0, none⟩) n c) ∧ w.heap.size ≤ g ∧ n ≤ c ∧ RowB w' g c bs ∧ Below w.heap.size w w' := by
  have hb : Below w.heap.size w (w.alloc (.cells #[] 5)) := (Below.refl _ _).alloc (Nat.le_refl _) _
  obtain ⟨g, c, w2, hr, hg, hrow, hb2, hc, _⟩ := append_bytes (w.alloc (.cells #[] 5)) w.heap.size (some ⟨w.heap.size, 0, none⟩) 0 0 [] rfl (.slice (some a) n c0) bs n hn0 (h.below hb) (by simp)
    (.inr ⟨_, rfl, Nat.le_refl _, Nat.le_refl _, #[], heap_alloc_new w _, Nat.le_refl _, fun k hk => by simp [cellsOf] at hk⟩) (by omega)
  rw [Nat.zero_add] at hr hc
  rw [List.nil_append] at hrow
  have HR := hide hr
  have HW := hide hrow
  have HB := hide (hb.trans hb2)
  clear hr hrow hb hb2 h hn0
  have hnil := eqnil a n c0
  go_enter Tryz.func47, Tryz.ntmps47
  go_wp2_with (at_builtin; refine wpList_append_run rfl _ _ 28 rfl _ _ rfl rfl _ _ (HR.out _) ?_)
  go_ret
  exact ⟨g, c, rfl, hg, hc, HW.out, HB.out⟩

theorem makeF22 (c : Nat) (hc : c ≤ 140737488355328) (w : World) : ∃ cs : Array Value, (Instr.makeSlice 28 (.int .i64 0) (.int .i64 (c : Int))).run Tryz.prog w = .ok (.slice (some ⟨w.heap.size, 0, none⟩) 0 c) (w.alloc (.cells cs 5)) ∧ c ≤ cs.size := by
  have hr := run_make (P := Tryz.prog) w 28 5 Tryz.t5 (.int .u8 0) Tryz.underlying28 info5 zero5 .i64 .i64 0 (c : Int) (Int.le_refl _) (by omega) (by rw [bytes5]; omega) (by omega)
  simp only [Int.toNat_zero, Int.toNat_natCast] at hr
  exact ⟨_, hr, by rw [size_madeCells, sz5]; omega⟩

end Go.Proofs.YtjklbhdhjfifhaaGreat

/-
  What is wrong with the frame that stands first: the code's own tests.
-/
namespace Go.Proofs.YtjklbhdhjfifhaaGreat
open Go.RowKit

/-- The first eight bytes. -/
theorem eight {bs : List (BitVec 8)} (h : 8 ≤ bs.length) : ∃ b0 b1 b2 b3 b4 b5 b6 b7 t, bs = b0 :: b1 :: b2 :: b3 :: b4 :: b5 :: b6 :: b7 :: t := by
  match bs, h with
  | b0 :: b1 :: b2 :: b3 :: b4 :: b5 :: b6 :: b7 :: t, _ => exact ⟨b0, b1, b2, b3, b4, b5, b6, b7, t, rfl⟩

theorem setF4 {w : World} {g : Nat} {t : TypeId} {x0 x1 x2 x3 : Value} (h : w.heap[g]? = some (.cells #[x0, x1, x2, x3] t (0, 0))) (a b c d : Value) :
    ((((w.setCell ⟨g, 0, none⟩ a).setCell ⟨g, 1, none⟩ b).setCell ⟨g, 2, none⟩ c).setCell ⟨g, 3, none⟩ d).heap[g]? = some (.cells #[a, b, c, d] t (0, 0)) :=
  heap_setCell_same _ g 3 _ t d (heap_setCell_same _ g 2 _ t c (heap_setCell_same _ g 1 _ t b (heap_setCell_same w g 0 _ t a h)))
section
variable {P : Program}
theorem results_tmp_cell {fn : Func} {i p : Tmp} {ty : TypeId} (h : fn.results = #[.tmp i, .cell p ty]) (tmps : Array Value) (w : World) (v : Value) (g : Nat) (t : TypeId) (cs : Array Value) (fr : Nat × Nat) (d : TypeDesc)
    (hv : tmps.getD i undef = v) (hp : tmps.getD p undef = .pointer (some ⟨g, 0, none⟩)) (hg : w.heap[g]? = some (.cells cs t fr))
    (hu : P.underlying ty = some d) (hd : (match d with | .struct _ | .array _ _ => true | _ => false) = true) (hi : (P.info? ty).map (·.size) = some cs.size) :
    (results fn tmps).run P w = .ok (.tuple #[v, .agg cs]) w := by
  have hp' : tmps[p]?.getD undef = .pointer (some ⟨g, 0, none⟩) := by simpa using hp
  have hv' : tmps[i]?.getD undef = v := by simpa using hv
  simp [results, h, hp', hv', asAddr, run_loadVar_row w g t ty cs fr d hg hu hd hi]
theorem results_cell_tmp2 {fn : Func} {i j p : Tmp} {ty : TypeId} (h : fn.results = #[.cell p ty, .tmp i, .tmp j]) (tmps : Array Value) (w : World) (v u : Value) (g : Nat) (t : TypeId) (cs : Array Value) (fr : Nat × Nat) (d : TypeDesc)
    (hv : tmps.getD i undef = v) (hu' : tmps.getD j undef = u) (hp : tmps.getD p undef = .pointer (some ⟨g, 0, none⟩)) (hg : w.heap[g]? = some (.cells cs t fr))
    (hu : P.underlying ty = some d) (hd : (match d with | .struct _ | .array _ _ => true | _ => false) = true) (hi : (P.info? ty).map (·.size) = some cs.size) :
    (results fn tmps).run P w = .ok (.tuple #[.agg cs, v, u]) w := by
  have hp' : tmps[p]?.getD undef = .pointer (some ⟨g, 0, none⟩) := by simpa using hp
  have hv' : tmps[i]?.getD undef = v := by simpa using hv
  have hw' : tmps[j]?.getD undef = u := by simpa using hu'
  simp [results, h, hp', hv', hw', asAddr, run_loadVar_row w g t ty cs fr d hg hu hd hi]
end

set_option maxRecDepth 100000 in
set_option maxHeartbeats 1000000 in
theorem behind_any (b off n c : Nat) (bs : List (BitVec 8)) (w : World) (hv : Bytes w (.slice (some ⟨b, off, none⟩) n c) bs) (hnc : n ≤ c) (h8 : Fr.lenOf bs + 12 ≤ n) :
    Calls Tryz.prog 135 #[.slice (some ⟨b, off, none⟩) n c] w fun e w' => ∃ (cb : Nat) (s0 s1 s2 s3 : BitVec 8), e = .returned (.tuple #[.slice (some ⟨b, off + 8, none⟩) (Fr.lenOf bs) cb, .agg #[.int .u8 s0.toNat, .int .u8 s1.toNat, .int .u8 s2.toNat, .int .u8 s3.toNat]]) ∧ (bs.drop (8 + Fr.lenOf bs)).take 4 = [s0, s1, s2, s3] ∧ Below w.heap.size w w' := by
  have hn := hv.len
  have HV := hide hv
  obtain ⟨b0, b1, b2, b3, b4, b5, b6, b7, t, hbs⟩ := eight (bs := bs) (by omega)
  have k0 : w.cell? ⟨b, off, none⟩ = some (.int .u8 b0.toNat) := by have := hv.at 0 (by omega); rw [hbs] at this; exact this
  have k1 : w.cell? ⟨b, off + 1, none⟩ = some (.int .u8 b1.toNat) := by have := hv.at 1 (by omega); rw [hbs] at this; exact this
  have k2 : w.cell? ⟨b, off + 2, none⟩ = some (.int .u8 b2.toNat) := by have := hv.at 2 (by omega); rw [hbs] at this; exact this
  have k3 : w.cell? ⟨b, off + 3, none⟩ = some (.int .u8 b3.toNat) := by have := hv.at 3 (by omega); rw [hbs] at this; exact this
  have k4 : w.cell? ⟨b, off + 4, none⟩ = some (.int .u8 b4.toNat) := by have := hv.at 4 (by omega); rw [hbs] at this; exact this
  have k5 : w.cell? ⟨b, off + 5, none⟩ = some (.int .u8 b5.toNat) := by have := hv.at 5 (by omega); rw [hbs] at this; exact this
  have k6 : w.cell? ⟨b, off + 6, none⟩ = some (.int .u8 b6.toNat) := by have := hv.at 6 (by omega); rw [hbs] at this; exact this
  have k7 : w.cell? ⟨b, off + 7, none⟩ = some (.int .u8 b7.toNat) := by have := hv.at 7 (by omega); rw [hbs] at this; exact this
  have hL : Fr.lenOf bs = b1.toNat + 256 * b2.toNat + 65536 * b3.toNat := by rw [hbs]; rfl
  have hlt := block_lt_of_cell k0
  have hat := at47 (some ⟨b, off, none⟩) n c (by omega)
  have HBS := hide hbs
  have HN := hide hn
  have HL := hide hL
  clear hbs hn hL hv
  generalize hLL : Fr.lenOf bs = L at *
  have hp := HV.out.part (8 + L) 4 (n - (8 + L)) (by have := HN.out; omega)
  obtain ⟨s0, s1, s2, s3, hs⟩ := Fr.of_four (l := (bs.drop (8 + L)).take 4) (by have := HN.out; rw [List.length_take, List.length_drop]; omega)
  rw [hs] at hp
  have p0 : w.cell? ⟨b, off + (8 + L), none⟩ = some (.int .u8 s0.toNat) := hp.at 0 (by simp)
  have p1 : w.cell? ⟨b, off + (8 + L) + 1, none⟩ = some (.int .u8 s1.toNat) := hp.at 1 (by simp)
  have p2 : w.cell? ⟨b, off + (8 + L) + 2, none⟩ = some (.int .u8 s2.toNat) := hp.at 2 (by simp)
  have p3 : w.cell? ⟨b, off + (8 + L) + 3, none⟩ = some (.int .u8 s3.toNat) := hp.at 3 (by simp)
  have HS := hide hs
  have P0 := hide p0
  have P1 := hide p1
  have P2 := hide p2
  have P3 := hide p3
  have HLL := hide hLL
  clear hs p0 p1 p2 p3 hp hLL
  go_enter Tryz.func135, Tryz.ntmps135
  go_wp2_with fail
  refine (length_any _ _ _ _ _ _ _ _ _).mono ?_
  rintro e w1 ⟨rfl, b1'⟩
  rw [← HL.out]
  have B1 := hide (((Below.refl w.heap.size w).alloc (Nat.le_refl _) _).trans (b1'.mono (by simp)))
  have hrow : w1.heap[w.heap.size]? = some (.cells #[.int .u8 0, .int .u8 0, .int .u8 0, .int .u8 0] 188 (0, 0)) := (b1'.block _ (by simp)).trans (heap_alloc_new w _)
  clear k0 k1 k2 k3 k4 k5 k6 k7 b1'
  have q0 := (B1.out.cell (p := ⟨b, off + (8 + L), none⟩) hlt).trans P0.out
  have q1 := (B1.out.cell (p := ⟨b, off + (8 + L) + 1, none⟩) hlt).trans P1.out
  have q2 := (B1.out.cell (p := ⟨b, off + (8 + L) + 2, none⟩) hlt).trans P2.out
  have q3 := (B1.out.cell (p := ⟨b, off + (8 + L) + 3, none⟩) hlt).trans P3.out
  obtain ⟨E, hE⟩ : ∃ E : Nat, E = 8 + L := ⟨_, rfl⟩
  rw [← hE] at q0 q1 q2 q3
  have hEi : (8 : Int) + (L : Int) = (E : Int) := by omega
  have hE1 : (E : Int) ≤ (c : Int) := by omega
  have hE2 : (E : Int) ≤ (n : Int) := by omega
  have hE3 : (8 : Int) ≤ (E : Int) := by omega
  have hLt := Fr.lenOf_lt bs
  rw [HLL.out] at hLt
  have hw64 : wrap64 (E : Int) = (E : Int) := by unfold wrap64; omega
  have hE4 : ¬ c = E := by omega
  have hE5 : ¬ c = 8 := by omega
  have hat2 := at50 (some ⟨b, off + E, none⟩) (n - E) (c - E) (by omega)
  have z0 : w1.cell? ⟨w.heap.size, 0, none⟩ = some (.int .u8 0) := cell_of_row w1 _ 0 _ 188 (0, 0) hrow
  have z1 : w1.cell? ⟨w.heap.size, 1, none⟩ = some (.int .u8 0) := cell_of_row w1 _ 1 _ 188 (0, 0) hrow
  have z2 : w1.cell? ⟨w.heap.size, 2, none⟩ = some (.int .u8 0) := cell_of_row w1 _ 2 _ 188 (0, 0) hrow
  have z3 : w1.cell? ⟨w.heap.size, 3, none⟩ = some (.int .u8 0) := cell_of_row w1 _ 3 _ 188 (0, 0) hrow
  have f0 := frozen_of_row w1 _ 0 _ 188 hrow
  have f1 := frozen_of_row w1 _ 1 _ 188 hrow
  have f2 := frozen_of_row w1 _ 2 _ 188 hrow
  have f3 := frozen_of_row w1 _ 3 _ 188 hrow
  have HE := hide hE
  have HR := hide hrow
  clear hE hrow hat
  go_wp2_with fail
  go_region
  go_wp2_with fail
  refine bodyPost_ret (v := .tuple #[.slice (some ⟨b, off + 8, none⟩) (E - 8) (c - 8), .agg #[.int .u8 s0.toNat, .int .u8 s1.toNat, .int .u8 s2.toNat, .int .u8 s3.toNat]]) ?_ rfl ?_
  · exact results_tmp_cell Tryz.results135 _ _ _ _ _ _ _ _ rfl rfl (setF4 (w := w1.drew) HR.out _ _ _ _) Tryz.underlying188 rfl info50
  · refine ⟨c - 8, s0, s1, s2, s3, ?_, HS.out, ?_⟩
    · rw [show E - 8 = L by have := HE.out; omega]
    · exact (((B1.out.setCell (Nat.le_refl _) _).setCell (Nat.le_refl _) _).setCell (Nat.le_refl _) _).setCell (Nat.le_refl _) _ |>.drew

set_option maxRecDepth 100000 in
set_option maxHeartbeats 1000000 in
theorem bodyWhole_any (b off n c : Nat) (bs : List (BitVec 8)) (w : World) (hv : Bytes w (.slice (some ⟨b, off, none⟩) n c) bs) (hnc : n ≤ c) (h8 : Fr.lenOf bs + 12 ≤ n) (hx : bs.length ≤ maxLen) :
    Calls Tryz.prog 176 #[.slice (some ⟨b, off, none⟩) n c] w fun e w' => e = .returned (.bool (decide ((bs.drop (8 + Fr.lenOf bs)).take 4 = Fr.msum (Fr.bodyOf bs)))) ∧ Below w.heap.size w w' := by
  have hn := hv.len
  have HV := hide hv
  have hbl : (Fr.bodyOf bs).length ≤ maxLen := by
    unfold Fr.bodyOf
    rw [List.length_take, List.length_drop]
    omega
  have hpart := fun (cb : Nat) => hv.part 8 (Fr.lenOf bs) cb (by omega)
  have HP := hide hpart
  have HBL := hide hbl
  clear hpart hbl hv hn hx
  go_enter Tryz.func176, Tryz.ntmps176
  go_wp2_with fail
  refine (behind_any b off n c bs _ HV.out hnc h8).mono ?_
  rintro e w1 ⟨cb, s0, s1, s2, s3, rfl, hs, b1⟩
  have HS := hide hs
  have B1 := hide b1
  clear hs b1
  generalize hLL : Fr.lenOf bs = L at *
  have HLL := hide hLL
  clear hLL
  go_wp2_with fail
  have B2 := hide (B1.out.alloc B1.out.size (.cells #[.int .u8 s0.toNat, .int .u8 s1.toNat, .int .u8 s2.toNat, .int .u8 s3.toNat] 188))
  have hnew := heap_alloc_new w1 (.cells #[.int .u8 s0.toNat, .int .u8 s1.toNat, .int .u8 s2.toNat, .int .u8 s3.toNat] 188)
  generalize w1.alloc (.cells #[.int .u8 s0.toNat, .int .u8 s1.toNat, .int .u8 s2.toNat, .int .u8 s3.toNat] 188) = w2 at *
  have z0 : w2.cell? ⟨w1.heap.size, 0, none⟩ = some (.int .u8 s0.toNat) := cell_of_row w2 _ 0 _ 188 (0, 0) hnew
  have z1 : w2.cell? ⟨w1.heap.size, 1, none⟩ = some (.int .u8 s1.toNat) := cell_of_row w2 _ 1 _ 188 (0, 0) hnew
  have z2 : w2.cell? ⟨w1.heap.size, 2, none⟩ = some (.int .u8 s2.toNat) := cell_of_row w2 _ 2 _ 188 (0, 0) hnew
  have z3 : w2.cell? ⟨w1.heap.size, 3, none⟩ = some (.int .u8 s3.toNat) := cell_of_row w2 _ 3 _ 188 (0, 0) hnew
  have hg := block_lt_of_cell z0
  have Y0 : Hid (w2.drew.cell? ⟨w1.heap.size, 0, none⟩ = some (.int .u8 s0.toNat)) := (World.cell?_drew _ _).trans z0
  have Y1 : Hid (w2.drew.cell? ⟨w1.heap.size, 1, none⟩ = some (.int .u8 s1.toNat)) := (World.cell?_drew _ _).trans z1
  have Y2 : Hid (w2.drew.cell? ⟨w1.heap.size, 2, none⟩ = some (.int .u8 s2.toNat)) := (World.cell?_drew _ _).trans z2
  have Y3 : Hid (w2.drew.cell? ⟨w1.heap.size, 3, none⟩ = some (.int .u8 s3.toNat)) := (World.cell?_drew _ _).trans z3
  have HG : Hid (w1.heap.size < w2.drew.heap.size) := hg
  clear hnew hg
  generalize hgg : w1.heap.size = gg at *
  have HB : Hid (Bytes w2.drew (.slice (some ⟨b, off + 8, none⟩) L cb) (Fr.bodyOf bs)) := by
    have := (HP.out cb).below B2.out.drew
    unfold Fr.bodyOf
    rw [HLL.out]
    exact this
  go_region_with (go_at_call 156; refine (sumOf_x _ (Fr.bodyOf bs) _ HB.out HBL.out).mono ?_; rintro e w3 ⟨t0, t1, t2, t3, ht, rfl, b3⟩; have d0 := (b3.cell (p := ⟨gg, 0, none⟩) HG.out).trans Y0.out; have d1 := (b3.cell (p := ⟨gg, 1, none⟩) HG.out).trans Y1.out; have d2 := (b3.cell (p := ⟨gg, 2, none⟩) HG.out).trans Y2.out; have d3 := (b3.cell (p := ⟨gg, 3, none⟩) HG.out).trans Y3.out; have hq := eq50' s0 s1 s2 s3 _ t0 t1 t2 t3 ht; have B3 := hide (then_below B2.out.drew b3 (Nat.le_refl _)); clear ht b3)
  all_goals go_wp2_with fail
  all_goals go_ret
  all_goals (refine ⟨?_, B3.out⟩; rw [HLL.out, HS.out]; first | done | rfl)

/-- The first eight cells of bytes. -/
theorem head8 {w : World} {b off n c : Nat} {b0 b1 b2 b3 b4 b5 b6 b7 : BitVec 8} {t : List (BitVec 8)} (hv : Bytes w (.slice (some ⟨b, off, none⟩) n c) (b0 :: b1 :: b2 :: b3 :: b4 :: b5 :: b6 :: b7 :: t)) :
    w.cell? ⟨b, off, none⟩ = some (.int .u8 b0.toNat) ∧ w.cell? ⟨b, off + 1, none⟩ = some (.int .u8 b1.toNat) ∧ w.cell? ⟨b, off + 2, none⟩ = some (.int .u8 b2.toNat) ∧ w.cell? ⟨b, off + 3, none⟩ = some (.int .u8 b3.toNat) ∧ w.cell? ⟨b, off + 4, none⟩ = some (.int .u8 b4.toNat) ∧ w.cell? ⟨b, off + 5, none⟩ = some (.int .u8 b5.toNat) ∧ w.cell? ⟨b, off + 6, none⟩ = some (.int .u8 b6.toNat) ∧ w.cell? ⟨b, off + 7, none⟩ = some (.int .u8 b7.toNat) :=
  ⟨hv.at 0 (by simp), hv.at 1 (by simp), hv.at 2 (by simp), hv.at 3 (by simp), hv.at 4 (by simp), hv.at 5 (by simp), hv.at 6 (by simp), hv.at 7 (by simp)⟩

set_option maxRecDepth 100000 in
set_option maxHeartbeats 1000000 in
theorem fault_short (a : Option Addr) (n c : Nat) (w : World) (h : n < 8) :
    Calls Tryz.prog 134 #[.slice a n c] w fun e w' => e = .returned (.int .i64 12) ∧ w' = w := by
  have hlt : (n : Int) < 8 := by omega
  go_enter Tryz.func134, Tryz.ntmps134
  go_wp2_with fail
  go_ret
  exact ⟨rfl, rfl⟩

set_option maxRecDepth 100000 in
set_option maxHeartbeats 4000000 in
theorem fault_long (b off n c : Nat) (bs : List (BitVec 8)) (w : World) (hv : Bytes w (.slice (some ⟨b, off, none⟩) n c) bs) (hnc : n ≤ c) (h8 : 8 ≤ n) (hx : bs.length ≤ maxLen) :
    Calls Tryz.prog 134 #[.slice (some ⟨b, off, none⟩) n c] w fun e w' => e = .returned (.int .i64 (Fr.fault bs : Nat)) ∧ Below w.heap.size w w' := by
  have hn := hv.len
  have hat := at47 (some ⟨b, off, none⟩) n c (by omega)
  obtain ⟨b0, b1, b2, b3, b4, b5, b6, b7, t, hbs⟩ := eight (bs := bs) (by omega)
  have hwh : ((bs.drop 4).take 4 = Fr.msum (bs.take 4)) = ([b4, b5, b6, b7] = Fr.msum [b0, b1, b2, b3]) := by rw [hbs]; rfl
  have hL : Fr.lenOf bs = b1.toNat + 256 * b2.toNat + 65536 * b3.toNat := by rw [hbs]; rfl
  have hLt := Fr.lenOf_lt bs
  have hfd : Fr.fault bs = if (bs.drop 4).take 4 ≠ Fr.msum (bs.take 4) then 4
      else if 1048576 < Fr.lenOf bs then 3
      else if bs.length < Fr.lenOf bs + 12 then 12
      else if (bs.drop (8 + Fr.lenOf bs)).take 4 ≠ Fr.msum (Fr.bodyOf bs) then 4
      else 0 := by
    unfold Fr.fault
    rw [if_neg (by omega)]
  have hge : ¬ (n : Int) < 8 := by omega
  have HV : Hid (Bytes w (.slice (some ⟨b, off, none⟩) n c) (b0 :: b1 :: b2 :: b3 :: b4 :: b5 :: b6 :: b7 :: t)) := by rw [hbs] at hv; exact hv
  have HV' := hide hv
  have HX := hide hx
  have HN := hide hn
  have HWH := hide hwh
  have HL := hide hL
  have HFD := hide hfd
  obtain ⟨k0, k1, k2, k3, k4, k5, k6, k7⟩ := head8 HV.out
  clear hv hn hwh hL hfd hbs hx
  generalize hLL : Fr.lenOf bs = L at *
  have HLL := hide hLL
  clear hLL
  by_cases q1 : [b4, b5, b6, b7] = Fr.msum [b0, b1, b2, b3]
  · have Q1 := hide q1
    have dq1 : decide ([b4, b5, b6, b7] = Fr.msum [b0, b1, b2, b3]) = true := decide_eq_true q1
    clear q1
    have hF1 : Hid (Fr.fault bs = if 1048576 < L then 3 else if bs.length < L + 12 then 12 else if (bs.drop (8 + L)).take 4 ≠ Fr.msum (Fr.bodyOf bs) then 4 else 0) := by
      unfold Hid
      rw [HFD.out, if_neg]
      rw [ne_eq, HWH.out, Classical.not_not]
      exact Q1.out
    clear HFD HWH
    by_cases q2 : 1048576 < L
    · have hq2 : (1048576 : Int) < (L : Int) := by omega
      have hF2 : Hid (Fr.fault bs = 3) := by unfold Hid; rw [hF1.out, if_pos q2]
      go_enter Tryz.func134, Tryz.ntmps134
      go_wp2_with fail
      refine (whole_any _ _ _ _ _ _ _ _ _).mono ?_
      rintro e w1 ⟨rfl, x1⟩
      rw [dq1]
      have X1 := hide x1
      obtain ⟨k0, k1, k2, k3, k4, k5, k6, k7⟩ := head8 (HV.out.below X1.out)
      clear x1
      go_wp2_with fail
      refine (length_any _ _ _ _ _ _ _ _ _).mono ?_
      rintro e w2 ⟨rfl, x2⟩
      rw [← HL.out]
      have X2 := hide (then_below X1.out x2 (Nat.le_refl _))
      clear x2
      go_wp2_with fail
      go_ret
      exact ⟨by rw [hF2.out]; rfl, X2.out⟩
    · have hq2 : ¬ (1048576 : Int) < (L : Int) := by omega
      by_cases q3 : n < L + 12
      · have hq3 : (n : Int) < max (L : Int) 0 + 12 := by omega
        have hF2 : Hid (Fr.fault bs = 12) := by unfold Hid; rw [hF1.out, if_neg q2, if_pos (by have := HN.out; omega)]
        go_enter Tryz.func134, Tryz.ntmps134
        go_wp2_with fail
        refine (whole_any _ _ _ _ _ _ _ _ _).mono ?_
        rintro e w1 ⟨rfl, x1⟩
        rw [dq1]
        have X1 := hide x1
        obtain ⟨k0, k1, k2, k3, k4, k5, k6, k7⟩ := head8 (HV.out.below X1.out)
        clear x1
        go_wp2_with fail
        refine (length_any _ _ _ _ _ _ _ _ _).mono ?_
        rintro e w2 ⟨rfl, x2⟩
        rw [← HL.out]
        have X2 := hide (then_below X1.out x2 (Nat.le_refl _))
        obtain ⟨k0, k1, k2, k3, k4, k5, k6, k7⟩ := head8 (HV.out.below X2.out)
        clear x2
        go_wp2_with fail
        refine (length_any _ _ _ _ _ _ _ _ _).mono ?_
        rintro e w3 ⟨rfl, x3⟩
        rw [← HL.out]
        have X3 := hide (then_below X2.out x3 (Nat.le_refl _))
        clear x3
        go_wp2_with fail
        refine (fsize_any (L : Int) _ (by omega) (by omega)).mono ?_
        rintro e w4 ⟨rfl, hw⟩
        subst hw
        rw [show max (L : Int) 0 + 12 = ((L + 12 : Nat) : Int) by omega] at *
        generalize hM : L + 12 = M at *
        have HM := hide hM
        clear hM
        go_wp2_with fail
        go_ret
        exact ⟨by rw [hF2.out]; rfl, X3.out⟩
      · have hq3 : ¬ (n : Int) < max (L : Int) 0 + 12 := by omega
        have hF2 : Hid (Fr.fault bs = if (bs.drop (8 + L)).take 4 ≠ Fr.msum (Fr.bodyOf bs) then 4 else 0) := by unfold Hid; rw [hF1.out, if_neg q2, if_neg (by have := HN.out; omega)]
        have hbw : ∀ w', Below w.heap.size w w' → Calls Tryz.prog 176 #[.slice (some ⟨b, off, none⟩) n c] w' fun e w'' => e = .returned (.bool (decide ((bs.drop (8 + L)).take 4 = Fr.msum (Fr.bodyOf bs)))) ∧ Below w'.heap.size w' w'' := fun w' hb => by
          have := bodyWhole_any b off n c bs w' (HV'.out.below hb) hnc (by rw [HLL.out]; omega) HX.out
          rw [HLL.out] at this
          exact this
        have HBW := hide hbw
        clear hbw
        by_cases q4 : (bs.drop (8 + L)).take 4 = Fr.msum (Fr.bodyOf bs)
        · have dq4 : decide ((bs.drop (8 + L)).take 4 = Fr.msum (Fr.bodyOf bs)) = true := decide_eq_true q4
          have hF3 : Hid (Fr.fault bs = 0) := by unfold Hid; rw [hF2.out, if_neg (by simpa using q4)]
          clear q4
          go_enter Tryz.func134, Tryz.ntmps134
          go_wp2_with fail
          refine (whole_any _ _ _ _ _ _ _ _ _).mono ?_
          rintro e w1 ⟨rfl, x1⟩
          rw [dq1]
          have X1 := hide x1
          obtain ⟨k0, k1, k2, k3, k4, k5, k6, k7⟩ := head8 (HV.out.below X1.out)
          clear x1
          go_wp2_with fail
          refine (length_any _ _ _ _ _ _ _ _ _).mono ?_
          rintro e w2 ⟨rfl, x2⟩
          rw [← HL.out]
          have X2 := hide (then_below X1.out x2 (Nat.le_refl _))
          obtain ⟨k0, k1, k2, k3, k4, k5, k6, k7⟩ := head8 (HV.out.below X2.out)
          clear x2
          go_wp2_with fail
          refine (length_any _ _ _ _ _ _ _ _ _).mono ?_
          rintro e w3 ⟨rfl, x3⟩
          rw [← HL.out]
          have X3 := hide (then_below X2.out x3 (Nat.le_refl _))
          clear x3
          go_wp2_with fail
          refine (fsize_any (L : Int) _ (by omega) (by omega)).mono ?_
          rintro e w4 ⟨rfl, hw⟩
          subst hw
          rw [show max (L : Int) 0 + 12 = ((L + 12 : Nat) : Int) by omega] at *
          generalize hM : L + 12 = M at *
          have HM := hide hM
          clear hM
          go_wp2_with fail
          refine (HBW.out _ X3.out).mono ?_
          rintro e w5 ⟨rfl, x5⟩
          rw [dq4]
          have X5 := hide (then_below X3.out x5 (Nat.le_refl _))
          clear x5
          go_wp2_with fail
          go_ret
          exact ⟨by rw [hF3.out]; rfl, X5.out⟩
        · have dq4 : decide ((bs.drop (8 + L)).take 4 = Fr.msum (Fr.bodyOf bs)) = false := decide_eq_false q4
          have hF3 : Hid (Fr.fault bs = 4) := by unfold Hid; rw [hF2.out, if_pos (by simpa using q4)]
          clear q4
          go_enter Tryz.func134, Tryz.ntmps134
          go_wp2_with fail
          refine (whole_any _ _ _ _ _ _ _ _ _).mono ?_
          rintro e w1 ⟨rfl, x1⟩
          rw [dq1]
          have X1 := hide x1
          obtain ⟨k0, k1, k2, k3, k4, k5, k6, k7⟩ := head8 (HV.out.below X1.out)
          clear x1
          go_wp2_with fail
          refine (length_any _ _ _ _ _ _ _ _ _).mono ?_
          rintro e w2 ⟨rfl, x2⟩
          rw [← HL.out]
          have X2 := hide (then_below X1.out x2 (Nat.le_refl _))
          obtain ⟨k0, k1, k2, k3, k4, k5, k6, k7⟩ := head8 (HV.out.below X2.out)
          clear x2
          go_wp2_with fail
          refine (length_any _ _ _ _ _ _ _ _ _).mono ?_
          rintro e w3 ⟨rfl, x3⟩
          rw [← HL.out]
          have X3 := hide (then_below X2.out x3 (Nat.le_refl _))
          clear x3
          go_wp2_with fail
          refine (fsize_any (L : Int) _ (by omega) (by omega)).mono ?_
          rintro e w4 ⟨rfl, hw⟩
          subst hw
          rw [show max (L : Int) 0 + 12 = ((L + 12 : Nat) : Int) by omega] at *
          generalize hM : L + 12 = M at *
          have HM := hide hM
          clear hM
          go_wp2_with fail
          refine (HBW.out _ X3.out).mono ?_
          rintro e w5 ⟨rfl, x5⟩
          rw [dq4]
          have X5 := hide (then_below X3.out x5 (Nat.le_refl _))
          clear x5
          go_wp2_with fail
          go_ret
          exact ⟨by rw [hF3.out]; rfl, X5.out⟩
  · have dq1 : decide ([b4, b5, b6, b7] = Fr.msum [b0, b1, b2, b3]) = false := decide_eq_false q1
    have hF1 : Hid (Fr.fault bs = 4) := by
      unfold Hid
      rw [HFD.out, if_pos]
      rw [ne_eq, HWH.out]
      exact q1
    clear q1
    go_enter Tryz.func134, Tryz.ntmps134
    go_wp2_with fail
    refine (whole_any _ _ _ _ _ _ _ _ _).mono ?_
    rintro e w1 ⟨rfl, x1⟩
    rw [dq1]
    go_wp2_with fail
    go_ret
    exact ⟨by rw [hF1.out]; rfl, x1⟩
end Go.Proofs.YtjklbhdhjfifhaaGreat

/-
  Read: the frame that stands first, or what is wrong with it.
-/
namespace Go.Proofs.YtjklbhdhjfifhaaGreat
open Go.RowKit

theorem fault_any (a : Option Addr) (n c : Nat) (bs : List (BitVec 8)) (w : World) (hv : Bytes w (.slice a n c) bs) (hnc : n ≤ c) (hx : bs.length ≤ maxLen) :
    Calls Tryz.prog 134 #[.slice a n c] w fun e w' => e = .returned (.int .i64 (Fr.fault bs : Nat)) ∧ Below w.heap.size w w' := by
  have hn := hv.len
  by_cases h : n < 8
  · have hf : Fr.fault bs = 12 := by unfold Fr.fault; rw [if_pos (by omega)]
    refine (fault_short a n c w h).mono fun e w' ⟨he, hw⟩ => ⟨by rw [he, hf]; rfl, by rw [hw]; exact Below.refl _ _⟩
  · obtain ⟨b, off, rfl⟩ := hv.addr (by omega)
    exact fault_long b off n c bs w hv hnc (by omega) hx

theorem rowB_setRow {w : World} {g c g0 : Nat} {bs : List (BitVec 8)} (h : RowB w g c bs) (hne : g ≠ g0) (cs : Array Value) : RowB (w.setRow g0 cs) g c bs := by
  obtain ⟨xs, h1, h2, h3⟩ := h
  exact ⟨xs, (setRow_other w g0 g cs hne).trans h1, h2, h3⟩

set_option maxRecDepth 100000 in
set_option maxHeartbeats 1000000 in
theorem read_whole (b off n c : Nat) (bs : List (BitVec 8)) (w : World) (hv : Bytes w (.slice (some ⟨b, off, none⟩) n c) bs) (hnc : n ≤ c) (hx : bs.length ≤ maxLen) (hf : Fr.fault bs = 0) :
    Calls Tryz.prog 95 #[.slice (some ⟨b, off, none⟩) n c] w fun e w' => ∃ g cp, e = .returned (.tuple #[.agg #[.int .u8 (bs.getD 0 0).toNat, .slice (some ⟨g, 0, none⟩) (Fr.lenOf bs) cp], .int .i64 (Fr.lenOf bs + 12 : Nat), .int .i64 0]) ∧ w.heap.size ≤ g ∧ Fr.lenOf bs ≤ cp ∧ RowB w' g cp (Fr.bodyOf bs) ∧ Below w.heap.size w w' := by
  have hn := hv.len
  obtain ⟨hl1, hl2⟩ := Fr.fault_len hf
  obtain ⟨b0, b1, b2, b3, b4, b5, b6, b7, t, hbs⟩ := eight (bs := bs) (by omega)
  have hk0 : bs.getD 0 0 = b0 := by rw [hbs]; rfl
  have HV : Hid (Bytes w (.slice (some ⟨b, off, none⟩) n c) (b0 :: b1 :: b2 :: b3 :: b4 :: b5 :: b6 :: b7 :: t)) := by rw [hbs] at hv; exact hv
  have HV' := hide hv
  have HX := hide hx
  have HF := hide hf
  have HK := hide hk0
  have hpart := fun (cb : Nat) => hv.part 8 (Fr.lenOf bs) cb (by omega)
  have hat := at47 (some ⟨b, off, none⟩) n c (by omega)
  have hbl : Fr.lenOf bs = (Fr.bodyOf bs).length := by unfold Fr.bodyOf; rw [List.length_take, List.length_drop]; omega
  have h12 : Fr.lenOf bs + 12 ≤ n := by omega
  have HP := hide hpart
  have HBL := hide hbl
  have H12 := hide h12
  have HL1 := hide hl1
  have HL2 := hide hl2
  clear hv hx hf hpart hbl hbs hn h12 hk0 hl1 hl2
  go_enter Tryz.func95, Tryz.ntmps95
  go_wp2_with fail
  have hb0 : Below w.heap.size w (w.alloc (.cells #[.int .u8 0, .slice none 0 0] 135)) := (Below.refl _ _).alloc (Nat.le_refl _) _
  have hr0 := heap_alloc_new w (.cells #[.int .u8 0, .slice none 0 0] 135)
  refine (fault_any (some ⟨b, off, none⟩) n c bs _ (HV'.out.below hb0) hnc HX.out).mono ?_
  rintro e w1 ⟨rfl, b1'⟩
  rw [HF.out]
  have HC := hide (heap_keep b1' hr0)
  have B1 := hide (then_below hb0 b1' (Nat.le_refl _))
  clear hb0 hr0 b1'
  go_wp2_with fail
  refine (behind_any b off n c bs _ (HV'.out.below B1.out) hnc H12.out).mono ?_
  rintro e w2 ⟨cb, s0, s1, s2, s3, rfl, hs, b2'⟩
  have HC2 := hide (heap_keep b2' HC.out)
  have B2 := hide (then_below B1.out b2' (Nat.le_refl _))
  clear b2' hs
  have BA := hide (B2.out.alloc B2.out.size (.cells #[.int .u8 s0.toNat, .int .u8 s1.toNat, .int .u8 s2.toNat, .int .u8 s3.toNat] 188))
  obtain ⟨k0, k1, k2, k3, k4, k5, k6, k7⟩ := head8 (HV.out.below BA.out)
  have HC3 := hide ((heap_alloc_old w2 (.cells #[.int .u8 s0.toNat, .int .u8 s1.toNat, .int .u8 s2.toNat, .int .u8 s3.toNat] 188) (lt_of_heap HC2.out)).trans HC2.out)
  generalize hLL : Fr.lenOf bs = L at *
  have HLL := hide hLL
  clear hLL
  go_wp2_with fail
  refine (kind_any _ _ _ _ _ _ _ _ _).mono ?_
  rintro e w3 ⟨rfl, b3'⟩
  have HC4 := hide (heap_keep b3' HC3.out)
  have B3 := hide (then_below BA.out b3' (Nat.le_refl _))
  clear b3' BA k0 k1 k2 k3 k4 k5 k6 k7 hat
  go_wp2_with fail
  refine (cloneF_any ⟨b, off + 8, none⟩ L cb (Fr.bodyOf bs) HBL.out _ (by
    have := (HP.out cb).below B3.out
    unfold Fr.bodyOf
    rw [HLL.out]
    exact this) (by have := HBL.out; have := HL2.out; omega)).mono ?_
  rintro e w4 ⟨g, cp, rfl, hg, hcp, hrow, b4'⟩
  have HC5 := hide (heap_keep b4' HC4.out)
  have hgn : g ≠ w.heap.size := by have := lt_of_heap HC4.out; omega
  have HR := hide hrow
  have B4 := hide (then_below B3.out b4' (Nat.le_refl _))
  have hgw : w.heap.size ≤ g := Nat.le_trans B3.out.size hg
  clear b4' hrow hg
  go_wp2_with fail
  refine (fsize_any (L : Int) _ (by have := HL2.out; omega) (by omega)).mono ?_
  rintro e w5 ⟨rfl, hw⟩
  subst hw
  rw [show max (L : Int) 0 + 12 = ((L + 12 : Nat) : Int) by omega]
  generalize hM : L + 12 = M
  have HM := hide hM
  clear hM
  go_wp2_with (refine wpList_store_row rfl 135 _ _ rfl _ _ rfl rfl _ _ HC5.out ?_ ?_ ?_ ?_; (exact info27); (simp only [List.size_toArray, List.length_cons, List.length_nil]); (simp [Value.oneCell']))
  refine bodyPost_ret (v := .tuple #[.agg #[.int .u8 b0.toNat, .slice (some ⟨g, 0, none⟩) L cp], .int .i64 (M : Nat), .int .i64 0]) ?_ rfl ?_
  · exact results_cell_tmp2 Tryz.results95 _ _ _ _ _ _ _ _ _ rfl rfl rfl (setRow_heap _ _ _ _ _ _ HC5.out) Tryz.underlying135 rfl info27
  · refine ⟨g, cp, ?_, hgw, ?_, rowB_setRow HR.out hgn _, below_setRow B4.out (Nat.le_refl _) _⟩
    · rw [HLL.out, HK.out, HM.out]
    · rw [HLL.out]; exact hcp
end Go.Proofs.YtjklbhdhjfifhaaGreat
