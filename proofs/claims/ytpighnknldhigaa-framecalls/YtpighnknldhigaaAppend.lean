/-
  A frame that is appended to bytes: its bytes behind them, in new memory.
-/
import Derived.Test.YtpighnknldhigaaOwn
import Derived.Handy
import Derived.Deep.RegionHeld
namespace Go.Proofs.Ytpighnknldhigaa
open Go.RowKit

theorem lt_heap {w : World} {g : Nat} {o : Obj} (h : w.heap[g]? = some o) : g < w.heap.size := by
  rcases Nat.lt_or_ge g w.heap.size with l | l
  · exact l
  · rw [Array.getElem?_eq_none l] at h; cases h
abbrev Z8 : Obj := .cells #[.int .u8 0, .int .u8 0, .int .u8 0, .int .u8 0, .int .u8 0, .int .u8 0, .int .u8 0, .int .u8 0] 47
abbrev Z4 : Obj := .cells #[.int .u8 0, .int .u8 0, .int .u8 0, .int .u8 0] 50
theorem zero8 {w : World} {g : Nat} (h : w.heap[g]? = some (.cells #[.int .u8 0, .int .u8 0, .int .u8 0, .int .u8 0, .int .u8 0, .int .u8 0, .int .u8 0, .int .u8 0] 47 (0, 0))) :
    w.cell? ⟨g, 0, none⟩ = some (.int .u8 0) ∧ w.cell? ⟨g, 1, none⟩ = some (.int .u8 0) ∧ w.cell? ⟨g, 2, none⟩ = some (.int .u8 0) ∧ w.cell? ⟨g, 3, none⟩ = some (.int .u8 0) ∧ w.cell? ⟨g, 4, none⟩ = some (.int .u8 0) ∧ w.cell? ⟨g, 5, none⟩ = some (.int .u8 0) ∧ w.cell? ⟨g, 6, none⟩ = some (.int .u8 0) ∧ w.cell? ⟨g, 7, none⟩ = some (.int .u8 0) ∧ w.frozen? ⟨g, 0, none⟩ = false ∧ w.frozen? ⟨g, 1, none⟩ = false ∧ w.frozen? ⟨g, 2, none⟩ = false ∧ w.frozen? ⟨g, 3, none⟩ = false ∧ w.frozen? ⟨g, 4, none⟩ = false ∧ w.frozen? ⟨g, 5, none⟩ = false ∧ w.frozen? ⟨g, 6, none⟩ = false ∧ w.frozen? ⟨g, 7, none⟩ = false :=
  ⟨cell_of_row w g 0 _ 47 (0, 0) h, cell_of_row w g 1 _ 47 (0, 0) h, cell_of_row w g 2 _ 47 (0, 0) h, cell_of_row w g 3 _ 47 (0, 0) h, cell_of_row w g 4 _ 47 (0, 0) h, cell_of_row w g 5 _ 47 (0, 0) h, cell_of_row w g 6 _ 47 (0, 0) h, cell_of_row w g 7 _ 47 (0, 0) h, frozen_of_row w g 0 _ 47 h, frozen_of_row w g 1 _ 47 h, frozen_of_row w g 2 _ 47 h, frozen_of_row w g 3 _ 47 h, frozen_of_row w g 4 _ 47 h, frozen_of_row w g 5 _ 47 h, frozen_of_row w g 6 _ 47 h, frozen_of_row w g 7 _ 47 h⟩
theorem zero4 {w : World} {g : Nat} (h : w.heap[g]? = some (.cells #[.int .u8 0, .int .u8 0, .int .u8 0, .int .u8 0] 50 (0, 0))) :
    w.cell? ⟨g, 0, none⟩ = some (.int .u8 0) ∧ w.cell? ⟨g, 1, none⟩ = some (.int .u8 0) ∧ w.cell? ⟨g, 2, none⟩ = some (.int .u8 0) ∧ w.cell? ⟨g, 3, none⟩ = some (.int .u8 0) ∧ w.frozen? ⟨g, 0, none⟩ = false ∧ w.frozen? ⟨g, 1, none⟩ = false ∧ w.frozen? ⟨g, 2, none⟩ = false ∧ w.frozen? ⟨g, 3, none⟩ = false :=
  ⟨cell_of_row w g 0 _ 50 (0, 0) h, cell_of_row w g 1 _ 50 (0, 0) h, cell_of_row w g 2 _ 50 (0, 0) h, cell_of_row w g 3 _ 50 (0, 0) h, frozen_of_row w g 0 _ 50 h, frozen_of_row w g 1 _ 50 h, frozen_of_row w g 2 _ 50 h, frozen_of_row w g 3 _ 50 h⟩

set_option maxRecDepth 100000 in
set_option maxHeartbeats 40000000 in
theorem append_any (v : Value) (bs : List (BitVec 8)) (k : BitVec 8) (a : Option Addr) (n c : Nat) (body : List (BitVec 8)) (w : World) (hv : Bytes w v bs) (hf : Bytes w (.slice a n c) body) (hn : n ≤ 1048576) (hb : bs.length ≤ 1000000000) :
    Calls Try.prog 7 #[v, .agg #[.int .u8 k.toNat, .slice a n c]] w fun e w' => ∃ g cp m, e = .returned (.tuple #[.slice (some ⟨g, 0, none⟩) m cp, .int .i64 0]) ∧ m = (bs ++ Fr.frameB k body).length ∧ w.heap.size ≤ g ∧ m ≤ cp ∧ RowB w' g cp (bs ++ Fr.frameB k body) ∧ Below w.heap.size w w' := by
  have hle : ¬ (1048576 : Int) < (n : Int) := by omega
  have HV := hide hv
  have HF := hide hf
  obtain ⟨av, cv, rfl, x1⟩ := hv
  obtain ⟨av', cv', hvn, x2⟩ := hf
  clear x1 x2
  have hnb : n = body.length := by cases hvn; rfl
  have HNB := hide hnb
  have hbm : body.length ≤ maxLen := by unfold maxLen; omega
  have HBM := hide hbm
  clear hvn hnb hbm
  generalize hbl : bs.length = m at *
  go_enter Try.func7, Try.ntmps7
  go_wp2_with fail
  have hb0 : Below w.heap.size w (w.alloc (.cells #[.int .u8 k.toNat, .slice a n c] 27)) := (Below.refl _ _).alloc (Nat.le_refl _) _
  have hnew := heap_alloc_new w (.cells #[.int .u8 k.toNat, .slice a n c] 27)
  have hs0 : (w.alloc (.cells #[.int .u8 k.toNat, .slice a n c] 27)).heap.size = w.heap.size + 1 := by simp
  generalize w.alloc (.cells #[.int .u8 k.toNat, .slice a n c] 27) = w0 at *
  have c0 : w0.cell? ⟨w.heap.size, 0, none⟩ = some (.int .u8 k.toNat) := cell_of_row w0 _ 0 _ 27 (0, 0) hnew
  have c1 : w0.cell? ⟨w.heap.size, 1, none⟩ = some (.slice a n c) := cell_of_row w0 _ 1 _ 27 (0, 0) hnew
  have HN := hide hnew
  have B0 := hide hb0
  clear hnew hb0
  go_cut [6, 7] from 13 to 17 (fun p6 p7 wx => ∃ (g6 g7 : Nat) (h0 h1 h2 h3 h4 h5 h6 h7 s0 s1 s2 s3 : BitVec 8), p6 = .pointer (some ⟨g6, 0, none⟩) ∧ p7 = .pointer (some ⟨g7, 0, none⟩) ∧ Fr.headB k n = [h0, h1, h2, h3, h4, h5, h6, h7] ∧ Fr.msum body = [s0, s1, s2, s3] ∧ Below w.heap.size w wx ∧ wx.cell? ⟨w.heap.size, 1, none⟩ = some (.slice a n c) ∧ wx.cell? ⟨g6, 0, none⟩ = some (.int .u8 h0.toNat) ∧ wx.cell? ⟨g6, 1, none⟩ = some (.int .u8 h1.toNat) ∧ wx.cell? ⟨g6, 2, none⟩ = some (.int .u8 h2.toNat) ∧ wx.cell? ⟨g6, 3, none⟩ = some (.int .u8 h3.toNat) ∧ wx.cell? ⟨g6, 4, none⟩ = some (.int .u8 h4.toNat) ∧ wx.cell? ⟨g6, 5, none⟩ = some (.int .u8 h5.toNat) ∧ wx.cell? ⟨g6, 6, none⟩ = some (.int .u8 h6.toNat) ∧ wx.cell? ⟨g6, 7, none⟩ = some (.int .u8 h7.toNat) ∧ wx.cell? ⟨g7, 0, none⟩ = some (.int .u8 s0.toNat) ∧ wx.cell? ⟨g7, 1, none⟩ = some (.int .u8 s1.toNat) ∧ wx.cell? ⟨g7, 2, none⟩ = some (.int .u8 s2.toNat) ∧ wx.cell? ⟨g7, 3, none⟩ = some (.int .u8 s3.toNat))
  case first =>
    rename_i qq kk rest jj kk' m1 m2
    clear rest
    have hs0' : w.heap.size < w0.heap.size := by omega
    have lt0' : w.heap.size < w0.heap.size + 1 := by omega
    have n0 : w0.heap.size ≠ w.heap.size := by omega
    have n0' : w0.heap.size + 1 ≠ w.heap.size := by omega
    clear hs0
    go_region_held (fun w' => w'.cell? ⟨w.heap.size, 0, none⟩ = some (.int .u8 k.toNat) ∧ w'.cell? ⟨w.heap.size, 1, none⟩ = some (.slice a n c)) (first | (with_reducible exact ⟨c0'', c1''⟩) | (with_reducible exact ⟨c0', c1'⟩) | (simp only [World.cell?_drew]; with_reducible exact ⟨c0, c1⟩) | go_keep) (first
      | (go_at_call 22; refine (headOf_any k a n c hn _).mono ?_; rintro e w1 ⟨h0, h1, h2, h3, h4, h5, h6, h7, hh, rfl, b1⟩; (have b01 : Below w0.heap.size w0 w1 := by first | exact (Below.refl _ _).drew.trans b1 | exact ((Below.refl _ _).drew.alloc (Nat.le_refl _) _).trans (b1.mono (by simp)) | exact (((Below.refl _ _).drew.alloc (Nat.le_refl _) _).alloc (by simp) _).trans (b1.mono (by simp; omega))); have c0' := (b01.cell (p := ⟨w.heap.size, 0, none⟩) (block_lt_of_cell c0)).trans c0; have c1' := (b01.cell (p := ⟨w.heap.size, 1, none⟩) (block_lt_of_cell c1)).trans c1; have B1 := hide (then_below B0.out b01 (Nat.le_refl _)); have l1 := b1.size; have l01 := b01.size; have lt1 : w.heap.size < w1.heap.size := (by omega); have lt1' : w.heap.size < w1.heap.size + 1 := (by omega); have n1 : w1.heap.size ≠ w.heap.size := (by omega); have n1' : w1.heap.size + 1 ≠ w.heap.size := (by omega); have HH := hide hh; (first | (have Z6 : Hid (w1.heap[w0.heap.size]? = some Z8) := heap_keep b1 (heap_alloc_new w0.drew Z8); obtain ⟨zc0, zc1, zc2, zc3, zc4, zc5, zc6, zc7, zf0, zf1, zf2, zf3, zf4, zf5, zf6, zf7⟩ := zero8 Z6.out; have lt6 := lt_heap Z6.out; have lt6' := Nat.lt_succ_of_lt lt6) | (have Z6 : Hid (w1.heap[w0.heap.size + 1]? = some Z8) := heap_keep b1 (heap_alloc2_new w0.drew Z4 Z8); obtain ⟨zc0, zc1, zc2, zc3, zc4, zc5, zc6, zc7, zf0, zf1, zf2, zf3, zf4, zf5, zf6, zf7⟩ := zero8 Z6.out; have lt6 := lt_heap Z6.out; have lt6' := Nat.lt_succ_of_lt lt6) | (have Z6 : Hid (w1.heap[w0.heap.size]? = some Z8) := heap_keep b1 ((heap_alloc_old (w0.drew.alloc Z8) Z4 (by simp)).trans (heap_alloc_new w0.drew Z8)); obtain ⟨zc0, zc1, zc2, zc3, zc4, zc5, zc6, zc7, zf0, zf1, zf2, zf3, zf4, zf5, zf6, zf7⟩ := zero8 Z6.out; have lt6 := lt_heap Z6.out; have lt6' := Nat.lt_succ_of_lt lt6) | skip); (first | (have Z7 : Hid (w1.heap[w0.heap.size]? = some Z4) := heap_keep b1 (heap_alloc_new w0.drew Z4); obtain ⟨yc0, yc1, yc2, yc3, yf0, yf1, yf2, yf3⟩ := zero4 Z7.out; have lt7 := lt_heap Z7.out; have lt7' := Nat.lt_succ_of_lt lt7) | (have Z7 : Hid (w1.heap[w0.heap.size + 1]? = some Z4) := heap_keep b1 (heap_alloc2_new w0.drew Z8 Z4); obtain ⟨yc0, yc1, yc2, yc3, yf0, yf1, yf2, yf3⟩ := zero4 Z7.out; have lt7 := lt_heap Z7.out; have lt7' := Nat.lt_succ_of_lt lt7) | (have Z7 : Hid (w1.heap[w0.heap.size]? = some Z4) := heap_keep b1 ((heap_alloc_old (w0.drew.alloc Z4) Z8 (by simp)).trans (heap_alloc_new w0.drew Z4)); obtain ⟨yc0, yc1, yc2, yc3, yf0, yf1, yf2, yf3⟩ := zero4 Z7.out; have lt7 := lt_heap Z7.out; have lt7' := Nat.lt_succ_of_lt lt7) | skip); clear b1 hh b01; (try simp at l1))
      | (go_at_call 23; refine (sumOf_x _ body _ (HF.out.below (by first | exact B1.out | exact B1.out.alloc B1.out.size _ | exact (B1.out.alloc B1.out.size _).alloc (Nat.le_trans B1.out.size (by simp)) _)) HBM.out).mono ?_; rintro e w2 ⟨s0, s1, s2, s3, hs, rfl, b2⟩; (have b12 : Below w1.heap.size w1 w2 := by first | exact b2 | exact ((Below.refl _ _).alloc (Nat.le_refl _) _).trans (b2.mono (by simp)) | exact (((Below.refl _ _).alloc (Nat.le_refl _) _).alloc (by simp) _).trans (b2.mono (by simp; omega))); have c0'' := (b12.cell (p := ⟨w.heap.size, 0, none⟩) (block_lt_of_cell c0')).trans c0'; have c1'' := (b12.cell (p := ⟨w.heap.size, 1, none⟩) (block_lt_of_cell c1')).trans c1'; have B2 := hide (then_below B1.out b12 (Nat.le_refl _)); have l2 := b2.size; have l12 := b12.size; have lt2 : w.heap.size < w2.heap.size := (by omega); have lt2' : w.heap.size < w2.heap.size + 1 := (by omega); have n2 : w2.heap.size ≠ w.heap.size := (by omega); have n2' : w2.heap.size + 1 ≠ w.heap.size := (by omega); have HS := hide hs; (first | (have Z6 := hide (heap_keep b12 Z6.out); obtain ⟨zc0, zc1, zc2, zc3, zc4, zc5, zc6, zc7, zf0, zf1, zf2, zf3, zf4, zf5, zf6, zf7⟩ := zero8 Z6.out; have lt6 := lt_heap Z6.out; have lt6' := Nat.lt_succ_of_lt lt6) | (have Z6 : Hid (w2.heap[w1.heap.size]? = some Z8) := heap_keep b2 (heap_alloc_new w1 Z8); obtain ⟨zc0, zc1, zc2, zc3, zc4, zc5, zc6, zc7, zf0, zf1, zf2, zf3, zf4, zf5, zf6, zf7⟩ := zero8 Z6.out; have lt6 := lt_heap Z6.out; have lt6' := Nat.lt_succ_of_lt lt6) | (have Z6 : Hid (w2.heap[w1.heap.size + 1]? = some Z8) := heap_keep b2 (heap_alloc2_new w1 Z4 Z8); obtain ⟨zc0, zc1, zc2, zc3, zc4, zc5, zc6, zc7, zf0, zf1, zf2, zf3, zf4, zf5, zf6, zf7⟩ := zero8 Z6.out; have lt6 := lt_heap Z6.out; have lt6' := Nat.lt_succ_of_lt lt6) | (have Z6 : Hid (w2.heap[w1.heap.size]? = some Z8) := heap_keep b2 ((heap_alloc_old (w1.alloc Z8) Z4 (by simp)).trans (heap_alloc_new w1 Z8)); obtain ⟨zc0, zc1, zc2, zc3, zc4, zc5, zc6, zc7, zf0, zf1, zf2, zf3, zf4, zf5, zf6, zf7⟩ := zero8 Z6.out; have lt6 := lt_heap Z6.out; have lt6' := Nat.lt_succ_of_lt lt6) | skip); (first | (have Z7 := hide (heap_keep b12 Z7.out); obtain ⟨yc0, yc1, yc2, yc3, yf0, yf1, yf2, yf3⟩ := zero4 Z7.out; have lt7 := lt_heap Z7.out; have lt7' := Nat.lt_succ_of_lt lt7) | (have Z7 : Hid (w2.heap[w1.heap.size]? = some Z4) := heap_keep b2 (heap_alloc_new w1 Z4); obtain ⟨yc0, yc1, yc2, yc3, yf0, yf1, yf2, yf3⟩ := zero4 Z7.out; have lt7 := lt_heap Z7.out; have lt7' := Nat.lt_succ_of_lt lt7) | (have Z7 : Hid (w2.heap[w1.heap.size + 1]? = some Z4) := heap_keep b2 (heap_alloc2_new w1 Z8 Z4); obtain ⟨yc0, yc1, yc2, yc3, yf0, yf1, yf2, yf3⟩ := zero4 Z7.out; have lt7 := lt_heap Z7.out; have lt7' := Nat.lt_succ_of_lt lt7) | (have Z7 : Hid (w2.heap[w1.heap.size]? = some Z4) := heap_keep b2 ((heap_alloc_old (w1.alloc Z4) Z8 (by simp)).trans (heap_alloc_new w1 Z4)); obtain ⟨yc0, yc1, yc2, yc3, yf0, yf1, yf2, yf3⟩ := zero4 Z7.out; have lt7 := lt_heap Z7.out; have lt7' := Nat.lt_succ_of_lt lt7) | skip); clear b2 hs b12; (try simp at l2)))
    all_goals go_wp2_with fail
    all_goals go_meet
    all_goals refine ⟨_, _, h0, h1, h2, h3, h4, h5, h6, h7, s0, s1, s2, s3, rfl, rfl, HH.out, HS.out, ?_, ?_, ?_, ?_, ?_, ?_, ?_, ?_, ?_, ?_, ?_, ?_, ?_, ?_⟩
    all_goals first | (go_cell; done) | (exact B2.out.trans (by go_grown))
  case rest =>
    obtain ⟨g6, g7, h0, h1, h2, h3, h4, h5, h6, h7, s0, s1, s2, s3, rfl, rfl, hh, hs, bx, cx, p0, p1, p2, p3, p4, p5, p6, p7, r0, r1, r2, r3⟩ := hcut
    have by6 : Bytes wc (.slice (some ⟨g6, 0, none⟩) 8 8) (Fr.headB k n) := by
      rw [hh]
      refine ⟨_, 8, rfl, fun j hj => ⟨g6, 0, rfl, ?_⟩⟩
      have : j = 0 ∨ j = 1 ∨ j = 2 ∨ j = 3 ∨ j = 4 ∨ j = 5 ∨ j = 6 ∨ j = 7 := by simp at hj; omega
      rcases this with rfl | rfl | rfl | rfl | rfl | rfl | rfl | rfl <;> assumption
    have by7 : Bytes wc (.slice (some ⟨g7, 0, none⟩) 4 4) (Fr.msum body) := by
      rw [hs]
      refine ⟨_, 4, rfl, fun j hj => ⟨g7, 0, rfl, ?_⟩⟩
      have : j = 0 ∨ j = 1 ∨ j = 2 ∨ j = 3 := by simp at hj; omega
      rcases this with rfl | rfl | rfl | rfl <;> assumption
    clear p0 p1 p2 p3 p4 p5 p6 p7 r0 r1 r2 r3 c0 c1 hs0 hh hs
    have hnb := HNB.out
    obtain ⟨C, hC⟩ : ∃ C : Nat, C = m + (n + 12) := ⟨_, rfl⟩
    obtain ⟨cs, hmk, hcs⟩ := make22 C (by omega) wc
    have bm : Below wc.heap.size wc (wc.alloc (.cells cs 5)) := (Below.refl _ _).alloc (Nat.le_refl _) _
    have rm : RowB (wc.alloc (.cells cs 5)) wc.heap.size C [] := ⟨cs, heap_alloc_new wc _, hcs, fun j hj => by simp [cellsOf] at hj⟩
    have hsz : wc.heap.size ≤ (wc.alloc (.cells cs 5)).heap.size := by simp
    obtain ⟨G1, C1, w1, hr1, _, row1, b1, _, eq1, _⟩ := append_bytes (wc.alloc (.cells cs 5)) wc.heap.size (some ⟨wc.heap.size, 0, none⟩) 0 C [] rfl (.slice av m cv) bs m hbl.symm (HV.out.below (bx.trans (bm.mono bx.size))) hsz (.inr ⟨_, rfl, Nat.le_refl _, Nat.zero_le _, rm⟩) (by omega)
    obtain ⟨e1, d1⟩ := eq1 (by omega)
    rw [d1] at hr1 row1
    clear d1
    obtain rfl : G1 = wc.heap.size := by cases e1; rfl
    rw [Nat.zero_add] at hr1
    rw [List.nil_append] at row1
    have bm1 : Below wc.heap.size wc w1 := bm.trans b1
    obtain ⟨G2, C2, w2, hr2, _, row2, b2, _, eq2, _⟩ := append_bytes w1 wc.heap.size (some ⟨wc.heap.size, 0, none⟩) m C bs hbl.symm (.slice (some ⟨g6, 0, none⟩) 8 8) (Fr.headB k n) 8 rfl (by6.below bm1) bm1.size (.inr ⟨_, rfl, Nat.le_refl _, by omega, row1⟩) (by omega)
    obtain ⟨e2, d2⟩ := eq2 (by omega)
    rw [d2] at hr2 row2
    clear d2
    obtain rfl : G2 = wc.heap.size := by cases e2; rfl
    have bm2 : Below wc.heap.size wc w2 := bm1.trans b2
    obtain ⟨G3, C3, w3, hr3, _, row3, b3, _, eq3, _⟩ := append_bytes w2 wc.heap.size (some ⟨wc.heap.size, 0, none⟩) (m + 8) C (bs ++ Fr.headB k n) (by rw [List.length_append, hbl, Fr.headB_length]) (.slice a n c) body n hnb (HF.out.below (bx.trans (bm2.mono bx.size))) bm2.size (.inr ⟨_, rfl, Nat.le_refl _, by omega, row2⟩) (by omega)
    obtain ⟨e3, d3⟩ := eq3 (by omega)
    rw [d3] at hr3 row3
    clear d3
    obtain rfl : G3 = wc.heap.size := by cases e3; rfl
    have bm3 : Below wc.heap.size wc w3 := bm2.trans b3
    obtain ⟨G4, C4, w4, hr4, _, row4, b4, hle4, eq4, _⟩ := append_bytes w3 wc.heap.size (some ⟨wc.heap.size, 0, none⟩) (m + 8 + n) C (bs ++ Fr.headB k n ++ body) (by rw [List.length_append, List.length_append, hbl, Fr.headB_length, hnb]) (.slice (some ⟨g7, 0, none⟩) 4 4) (Fr.msum body) 4 rfl (by7.below bm3) bm3.size (.inr ⟨_, rfl, Nat.le_refl _, by omega, row3⟩) (by omega)
    obtain ⟨e4, d4⟩ := eq4 (by omega)
    rw [d4] at hr4 row4 hle4
    clear d4
    obtain rfl : G4 = wc.heap.size := by cases e4; rfl
    have bm4 : Below wc.heap.size wc w4 := bm3.trans b4
    have hall : bs ++ Fr.headB k n ++ body ++ Fr.msum body = bs ++ Fr.frameB k body := by
      rw [hnb, Fr.frameB]
      simp only [List.append_assoc]
    rw [hall] at row4
    have hlen : m + 8 + n + 4 = (bs ++ Fr.frameB k body).length := by
      rw [List.length_append, Fr.frameB_length, hbl]
      omega
    have hblk := block_lt_of_cell cx
    have cx2 := (bm2.cell (p := ⟨w.heap.size, 1, none⟩) hblk).trans cx
    have BX := hide (bx.trans (bm4.mono bx.size))
    have hgw : w.heap.size ≤ wc.heap.size := bx.size
    have R4 := hide row4
    have HLEN := hide hlen
    have HCc := hide hC
    have HR1 := hide hr1
    have HR2 := hide hr2
    have HR3 := hide hr3
    have HR4 := hide hr4
    have HMK := hide hmk
    clear hr1 hr2 hr3 hr4 hmk row1 row2 row3 row4 rm bm bm1 bm2 bm3 bm4 b1 b2 b3 b4 hall hlen hcs hsz by6 by7 bx eq1 eq2 eq3 eq4 e1 e2 e3 e4 hnb hC hbl
    go_wp2_with fail
    refine (size_any (n : Int) _ (by omega) (by omega)).mono ?_
    rintro e w5 ⟨rfl, hw⟩
    subst hw
    have hCi : (m : Int) + (max (n : Int) 0 + 12) = (C : Int) := by have := HCc.out; omega
    have hmk := HMK.out
    have hCm : (C : Int) ≤ 9223372036854775807 := by have := HCc.out; omega
    generalize max (n : Int) 0 + 12 = N12 at *
    go_wp2_with (at_builtin; first
      | (refine wpList_append_run rfl _ _ 22 rfl _ _ rfl rfl _ _ (HR1.out _) ?_; clear HR1)
      | (refine wpList_append_run rfl _ _ 22 rfl _ _ rfl rfl _ _ (HR2.out _) ?_; clear HR2)
      | (refine wpList_append_run rfl _ _ 22 rfl _ _ rfl rfl _ _ (HR3.out _) ?_; clear HR3)
      | (refine wpList_append_run rfl _ _ 22 rfl _ _ rfl rfl _ _ (HR4.out _) ?_; clear HR4))
    go_ret2
    exact ⟨_, C, m + 8 + n + 4, rfl, HLEN.out, hgw, hle4, R4.out, BX.out⟩
end Go.Proofs.Ytpighnknldhigaa
