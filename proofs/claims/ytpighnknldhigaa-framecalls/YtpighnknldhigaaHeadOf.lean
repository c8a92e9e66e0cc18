/-
  The head of a frame, as it is made.
-/
import Derived.Test.YtpighnknldhigaaHead
import Derived.Deep.RegionLaw
namespace Go.Proofs.Ytpighnknldhigaa
open Go.RowKit

theorem size5 : (Try.prog.info? 5).map (·.size) = some 1 := by kernel_rfl
set_option maxRecDepth 100000 in
set_option maxHeartbeats 1000000 in
theorem headOf_any (k : BitVec 8) (a : Option Addr) (n c : Nat) (hn : n ≤ 1048576) (w : World) :
    Calls Try.prog 22 #[.agg #[.int .u8 k.toNat, .slice a n c]] w
      fun e w' => ∃ h0 h1 h2 h3 h4 h5 h6 h7 : BitVec 8, Fr.headB k n = [h0, h1, h2, h3, h4, h5, h6, h7] ∧ e = .returned (.agg #[.int .u8 h0.toNat, .int .u8 h1.toNat, .int .u8 h2.toNat, .int .u8 h3.toNat, .int .u8 h4.toNat, .int .u8 h5.toNat, .int .u8 h6.toNat, .int .u8 h7.toNat]) ∧ Below w.heap.size w w' := by
  have e1 : (n : Int) % (256 : Int) = ((BitVec.ofNat 8 n).toNat : Int) := by rw [BitVec.toNat_ofNat]; omega
  have e2 : (n : Int) / (256 : Int) % (256 : Int) = ((BitVec.ofNat 8 (n / 256)).toNat : Int) := by rw [BitVec.toNat_ofNat]; omega
  have e3 : (n : Int) / (65536 : Int) = ((BitVec.ofNat 8 (n / 65536)).toNat : Int) := by rw [BitVec.toNat_ofNat]; omega
  have hp : Fr.plain k n = [k, BitVec.ofNat 8 n, BitVec.ofNat 8 (n / 256), BitVec.ofNat 8 (n / 65536)] := rfl
  generalize BitVec.ofNat 8 n = p1 at *
  generalize BitVec.ofNat 8 (n / 256) = p2 at *
  generalize BitVec.ofNat 8 (n / 65536) = p3 at *
  have E := hide (And.intro e1 (And.intro e2 e3))
  have HP := hide hp
  clear e1 e2 e3 hp
  go_enter Try.func22, Try.ntmps22
  go_wp2_with fail
  rw [E.out.1, E.out.2.1, E.out.2.2]
  generalize hw0 : ((w.alloc (.cells #[.int .u8 k.toNat, .slice a n c] 27)).alloc (.cells #[.int .u8 0, .int .u8 0, .int .u8 0, .int .u8 0, .int .u8 0, .int .u8 0, .int .u8 0, .int .u8 0] 47)).alloc (.cells #[.int .u8 k.toNat, .int .u8 p1.toNat, .int .u8 p2.toNat, .int .u8 p3.toNat, .int .u8 0, .int .u8 0, .int .u8 0, .int .u8 0] 47) = w0
  have hb0 : Below w.heap.size w w0 := by
    rw [← hw0]
    exact (((Below.refl _ _).alloc (Nat.le_refl _) _).alloc (by simp) _).alloc (by simp; omega) _
  have hs0 : w0.heap.size = w.heap.size + 3 := by rw [← hw0]; simp
  have h1 : w0.heap[w.heap.size + 1]? = some (.cells #[.int .u8 0, .int .u8 0, .int .u8 0, .int .u8 0, .int .u8 0, .int .u8 0, .int .u8 0, .int .u8 0] 47 (0, 0)) := by
    rw [← hw0, heap_alloc_old _ _ (by simp), heap_alloc2_new]
  have h2 : w0.heap[w.heap.size + 1 + 1]? = some (.cells #[.int .u8 k.toNat, .int .u8 p1.toNat, .int .u8 p2.toNat, .int .u8 p3.toNat, .int .u8 0, .int .u8 0, .int .u8 0, .int .u8 0] 47 (0, 0)) := by
    rw [← hw0]
    have := heap_alloc2_new (w.alloc (.cells #[.int .u8 k.toNat, .slice a n c] 27)) (.cells #[.int .u8 0, .int .u8 0, .int .u8 0, .int .u8 0, .int .u8 0, .int .u8 0, .int .u8 0, .int .u8 0] 47) (.cells #[.int .u8 k.toNat, .int .u8 p1.toNat, .int .u8 p2.toNat, .int .u8 p3.toNat, .int .u8 0, .int .u8 0, .int .u8 0, .int .u8 0] 47)
    simpa using this
  clear hw0
  refine (sumOf_x _ [k, p1, p2, p3] _ (row_bytes (bs := [k, p1, p2, p3]) h2 0 8 (fun j hj => by
    have : j = 0 ∨ j = 1 ∨ j = 2 ∨ j = 3 := by simp at hj; omega
    rcases this with rfl | rfl | rfl | rfl <;> rfl)) (four_max _ _ _ _)).mono ?_
  rintro e w1 ⟨s0, s1, s2, s3, hs, rfl, b1⟩
  have g1 := (b1.block _ (by omega)).trans h1
  have g2 := (b1.block _ (by omega)).trans h2
  have hs1 := b1.size
  have B1 := hide (then_below hb0 b1 (Nat.le_refl _))
  have G1 := hide g1
  have G2 := hide g2
  have HS := hide hs
  clear g1 g2 h1 h2 hb0 b1 hs
  go_wp2_with fail
  generalize hg : w.heap.size = g at *
  have hnew := heap_alloc_new w1 (.cells #[.int .u8 s0.toNat, .int .u8 s1.toNat, .int .u8 s2.toNat, .int .u8 s3.toNat] 50)
  have g1 : (w1.alloc (.cells #[.int .u8 s0.toNat, .int .u8 s1.toNat, .int .u8 s2.toNat, .int .u8 s3.toNat] 50)).heap[g + 1]? = _ := (heap_alloc_old _ _ (by omega)).trans G1.out
  have g2 : (w1.alloc (.cells #[.int .u8 s0.toNat, .int .u8 s1.toNat, .int .u8 s2.toNat, .int .u8 s3.toNat] 50)).heap[g + 1 + 1]? = _ := (heap_alloc_old _ _ (by omega)).trans G2.out
  have b2 := B1.out.alloc (by omega) (.cells #[.int .u8 s0.toNat, .int .u8 s1.toNat, .int .u8 s2.toNat, .int .u8 s3.toNat] 50)
  generalize w1.alloc (.cells #[.int .u8 s0.toNat, .int .u8 s1.toNat, .int .u8 s2.toNat, .int .u8 s3.toNat] 50) = w2 at *
  have H3 := hide hnew
  have H1 := hide g1
  have H2 := hide g2
  have B2 := hide b2
  clear hnew g1 g2 b2 B1 G1 G2
  have hsrc : ∀ j v, [Value.int .u8 s0.toNat, .int .u8 s1.toNat, .int .u8 s2.toNat, .int .u8 s3.toNat][j]? = some v → w2.drew.cell? ((⟨w1.heap.size, 0, none⟩ : Addr).add j) = some v := by
    intro j v hv
    rw [Go.WideShapes.add_plain, Nat.zero_add, cell_of_row w2.drew w1.heap.size j _ 50 (0, 0) H3.out, List.getElem?_toArray]
    exact hv
  have hone : ∀ v ∈ [Value.int .u8 s0.toNat, .int .u8 s1.toNat, .int .u8 s2.toNat, .int .u8 s3.toNat], v.oneCell' = true := by
    intro v hv
    simp only [List.mem_cons, List.not_mem_nil, or_false] at hv
    rcases hv with rfl | rfl | rfl | rfl <;> rfl
  have hfit : 4 + [Value.int .u8 s0.toNat, .int .u8 s1.toNat, .int .u8 s2.toNat, .int .u8 s3.toNat].length ≤ [Value.int .u8 k.toNat, .int .u8 p1.toNat, .int .u8 p2.toNat, .int .u8 p3.toNat, .int .u8 0, .int .u8 0, .int .u8 0, .int .u8 0].length := Nat.le_refl 8
  have SRC := hide hsrc
  have ONE := hide hone
  have FIT := hide hfit
  clear hsrc hone hfit
  go_region_law (refine step_copy_splice rfl (.tmp 22) (.tmp 23) 22 22 rfl 5 Try.underlying22 size5 _ _ _ _ _ _ rfl rfl (g + 1 + 1) 4 [.int .u8 k.toNat, .int .u8 p1.toNat, .int .u8 p2.toNat, .int .u8 p3.toNat, .int .u8 0, .int .u8 0, .int .u8 0, .int .u8 0] 47 H2.out [.int .u8 s0.toNat, .int .u8 s1.toNat, .int .u8 s2.toNat, .int .u8 s3.toNat] rfl (fun _ => ⟨rfl, _, rfl, SRC.out⟩) FIT.out ONE.out (g + 1 + 1) w2.drew (Below.refl _ _) (Nat.le_refl _) ?_; intro w4 hg4 hb4)
  have G4 : Hid (w4.heap[g + 1 + 1]? = some (.cells #[.int .u8 k.toNat, .int .u8 p1.toNat, .int .u8 p2.toNat, .int .u8 p3.toNat, .int .u8 s0.toNat, .int .u8 s1.toNat, .int .u8 s2.toNat, .int .u8 s3.toNat] 47 (0, 0))) := hg4.out
  have G1 : Hid (w4.heap[g + 1]? = some (.cells #[.int .u8 0, .int .u8 0, .int .u8 0, .int .u8 0, .int .u8 0, .int .u8 0, .int .u8 0, .int .u8 0] 47 (0, 0))) := (hb4.block _ (by omega)).trans H1.out
  have B4 := hide (B2.out.drew.trans (hb4.mono (by omega)))
  clear hg4 hb4 H1 H2 H3 SRC ONE FIT B2
  go_wp2_with (first | (refine wpList_load_row rfl 47 _ rfl _ rfl _ _ _ _ G4.out Try.underlying47 rfl ?_ ?_; exact info47) | (refine wpList_store_row rfl 47 _ _ rfl _ _ rfl rfl _ _ G1.out ?_ ?_ ?_ ?_; (exact info47); (simp only [List.size_toArray, List.length_cons, List.length_nil]); (simp [Value.oneCell'])))
  refine bodyPost_ret (v := .agg #[.int .u8 k.toNat, .int .u8 p1.toNat, .int .u8 p2.toNat, .int .u8 p3.toNat, .int .u8 s0.toNat, .int .u8 s1.toNat, .int .u8 s2.toNat, .int .u8 s3.toNat]) ?_ rfl ?_
  · exact results_cell_row Try.results22 _ _ _ _ _ _ _ rfl (setRow_heap _ _ _ _ _ _ G1.out) Try.underlying47 rfl info47
  · refine ⟨k, p1, p2, p3, s0, s1, s2, s3, ?_, rfl, ?_⟩
    · unfold Fr.headB
      rw [HP.out, HS.out]
      simp only [List.cons_append, List.nil_append]
    · rw [hg]
      exact below_setRow B4.out (by omega) _
end Go.Proofs.Ytpighnknldhigaa
