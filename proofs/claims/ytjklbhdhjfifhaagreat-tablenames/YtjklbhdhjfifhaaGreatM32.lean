import Derived.Test.YtjklbhdhjfifhaaGreatM31
import Derived.Handy
import Derived.Deep.RegionHeld
import Derived.Test.YtjklbhdhjfifhaaGreatM16
import Derived.Deep.Light
import Derived.Test.YtjklbhdhjfifhaaGreatM17
/-
  A frame that is appended to bytes: its bytes behind them, in new memory.
-/
namespace Go.Proofs.YtjklbhdhjfifhaaGreat
open Go.RowKit

theorem lt_heap {w : World} {g : Nat} {o : Obj} (h : w.heap[g]? = some o) : g < w.heap.size := by
  rcases Nat.lt_or_ge g w.heap.size with l | l
  · exact l
  · rw [Array.getElem?_eq_none l] at h; cases h
abbrev Z8 : Obj := .cells #[.int .u8 0, .int .u8 0, .int .u8 0, .int .u8 0, .int .u8 0, .int .u8 0, .int .u8 0, .int .u8 0] 192
abbrev Z4 : Obj := .cells #[.int .u8 0, .int .u8 0, .int .u8 0, .int .u8 0] 188
theorem zero8 {w : World} {g : Nat} (h : w.heap[g]? = some (.cells #[.int .u8 0, .int .u8 0, .int .u8 0, .int .u8 0, .int .u8 0, .int .u8 0, .int .u8 0, .int .u8 0] 192 (0, 0))) :
    w.cell? ⟨g, 0, none⟩ = some (.int .u8 0) ∧ w.cell? ⟨g, 1, none⟩ = some (.int .u8 0) ∧ w.cell? ⟨g, 2, none⟩ = some (.int .u8 0) ∧ w.cell? ⟨g, 3, none⟩ = some (.int .u8 0) ∧ w.cell? ⟨g, 4, none⟩ = some (.int .u8 0) ∧ w.cell? ⟨g, 5, none⟩ = some (.int .u8 0) ∧ w.cell? ⟨g, 6, none⟩ = some (.int .u8 0) ∧ w.cell? ⟨g, 7, none⟩ = some (.int .u8 0) ∧ w.frozen? ⟨g, 0, none⟩ = false ∧ w.frozen? ⟨g, 1, none⟩ = false ∧ w.frozen? ⟨g, 2, none⟩ = false ∧ w.frozen? ⟨g, 3, none⟩ = false ∧ w.frozen? ⟨g, 4, none⟩ = false ∧ w.frozen? ⟨g, 5, none⟩ = false ∧ w.frozen? ⟨g, 6, none⟩ = false ∧ w.frozen? ⟨g, 7, none⟩ = false :=
  ⟨cell_of_row w g 0 _ 192 (0, 0) h, cell_of_row w g 1 _ 192 (0, 0) h, cell_of_row w g 2 _ 192 (0, 0) h, cell_of_row w g 3 _ 192 (0, 0) h, cell_of_row w g 4 _ 192 (0, 0) h, cell_of_row w g 5 _ 192 (0, 0) h, cell_of_row w g 6 _ 192 (0, 0) h, cell_of_row w g 7 _ 192 (0, 0) h, frozen_of_row w g 0 _ 192 h, frozen_of_row w g 1 _ 192 h, frozen_of_row w g 2 _ 192 h, frozen_of_row w g 3 _ 192 h, frozen_of_row w g 4 _ 192 h, frozen_of_row w g 5 _ 192 h, frozen_of_row w g 6 _ 192 h, frozen_of_row w g 7 _ 192 h⟩
theorem zero4 {w : World} {g : Nat} (h : w.heap[g]? = some (.cells #[.int .u8 0, .int .u8 0, .int .u8 0, .int .u8 0] 188 (0, 0))) :
    w.cell? ⟨g, 0, none⟩ = some (.int .u8 0) ∧ w.cell? ⟨g, 1, none⟩ = some (.int .u8 0) ∧ w.cell? ⟨g, 2, none⟩ = some (.int .u8 0) ∧ w.cell? ⟨g, 3, none⟩ = some (.int .u8 0) ∧ w.frozen? ⟨g, 0, none⟩ = false ∧ w.frozen? ⟨g, 1, none⟩ = false ∧ w.frozen? ⟨g, 2, none⟩ = false ∧ w.frozen? ⟨g, 3, none⟩ = false :=
  ⟨cell_of_row w g 0 _ 188 (0, 0) h, cell_of_row w g 1 _ 188 (0, 0) h, cell_of_row w g 2 _ 188 (0, 0) h, cell_of_row w g 3 _ 188 (0, 0) h, frozen_of_row w g 0 _ 188 h, frozen_of_row w g 1 _ 188 h, frozen_of_row w g 2 _ 188 h, frozen_of_row w g 3 _ 188 h⟩

set_option maxRecDepth 100000 in
set_option maxHeartbeats 40000000 in
theorem append_any (v : Value) (bs : List (BitVec 8)) (k : BitVec 8) (a : Option Addr) (n c : Nat) (body : List (BitVec 8)) (w : World) (hv : Bytes w v bs) (hf : Bytes w (.slice a n c) body) (hn : n ≤ 1048576) (hb : bs.length ≤ 1000000000) :
    Calls Tryz.prog 111 #[v, .agg #[.int .u8 k.toNat, .slice a n c]] w fun e w' => ∃ g cp m, e = .returned (.tuple #[.slice (some ⟨g, 0, none⟩) m cp, .int .i64 0]) ∧ m = (bs ++ Fr.frameB k body).length ∧ w.heap.size ≤ g ∧ m ≤ cp ∧ RowB w' g cp (bs ++ Fr.frameB k body) ∧ Below w.heap.size w w' := by
  have hle : ¬ (1048576 : Int) < (n : Int) := by omega
  have HV := hide hv
  have HF := hide hf
  obtain ⟨av, cv, rfl, x1⟩ := hv
  obtain ⟨av', cv', hvn, x2⟩ := hf
  clear x1 x2
  have hnb : n = body.length := by cases hvn; rfl
  have HNB := hide hnb
  have hbm : body.length ≤ maxLen := by unfold maxLen; omega
  have HBM := hide hbm
  clear hvn hnb hbm
  generalize hbl : bs.length = m at *
  go_enter Tryz.func111, Tryz.ntmps111
  go_wp2_with fail
  have hb0 : Below w.heap.size w (w.alloc (.cells #[.int .u8 k.toNat, .slice a n c] 135)) := (Below.refl _ _).alloc (Nat.le_refl _) _
  have hnew := heap_alloc_new w (.cells #[.int .u8 k.toNat, .slice a n c] 135)
  have hs0 : (w.alloc (.cells #[.int .u8 k.toNat, .slice a n c] 135)).heap.size = w.heap.size + 1 := by simp
  generalize w.alloc (.cells #[.int .u8 k.toNat, .slice a n c] 135) = w0 at *
  have c0 : w0.cell? ⟨w.heap.size, 0, none⟩ = some (.int .u8 k.toNat) := cell_of_row w0 _ 0 _ 135 (0, 0) hnew
  have c1 : w0.cell? ⟨w.heap.size, 1, none⟩ = some (.slice a n c) := cell_of_row w0 _ 1 _ 135 (0, 0) hnew
  have HN := hide hnew
  have B0 := hide hb0
  clear hnew hb0
  go_cut [6, 7] from 13 to 17 (fun p6 p7 wx => ∃ (g6 g7 : Nat) (h0 h1 h2 h3 h4 h5 h6 h7 s0 s1 s2 s3 : BitVec 8), p6 = .pointer (some ⟨g6, 0, none⟩) ∧ p7 = .pointer (some ⟨g7, 0, none⟩) ∧ Fr.headB k n = [h0, h1, h2, h3, h4, h5, h6, h7] ∧ Fr.msum body = [s0, s1, s2, s3] ∧ Below w.heap.size w wx ∧ wx.cell? ⟨w.heap.size, 1, none⟩ = some (.slice a n c) ∧ wx.cell? ⟨g6, 0, none⟩ = some (.int .u8 h0.toNat) ∧ wx.cell? ⟨g6, 1, none⟩ = some (.int .u8 h1.toNat) ∧ wx.cell? ⟨g6, 2, none⟩ = some (.int .u8 h2.toNat) ∧ wx.cell? ⟨g6, 3, none⟩ = some (.int .u8 h3.toNat) ∧ wx.cell? ⟨g6, 4, none⟩ = some (.int .u8 h4.toNat) ∧ wx.cell? ⟨g6, 5, none⟩ = some (.int .u8 h5.toNat) ∧ wx.cell? ⟨g6, 6, none⟩ = some (.int .u8 h6.toNat) ∧ wx.cell? ⟨g6, 7, none⟩ = some (.int .u8 h7.toNat) ∧ wx.cell? ⟨g7, 0, none⟩ = some (.int .u8 s0.toNat) ∧ wx.cell? ⟨g7, 1, none⟩ = some (.int .u8 s1.toNat) ∧ wx.cell? ⟨g7, 2, none⟩ = some (.int .u8 s2.toNat) ∧ wx.cell? ⟨g7, 3, none⟩ = some (.int .u8 s3.toNat))
  case first =>
    rename_i qq kk rest jj kk' m1 m2
    clear rest
    have hs0' : w.heap.size < w0.heap.size := by omega
    have lt0' : w.heap.size < w0.heap.size + 1 := by omega
    have n0 : w0.heap.size ≠ w.heap.size := by omega
    have n0' : w0.heap.size + 1 ≠ w.heap.size := by omega
    clear hs0
    go_region_held (fun w' => w'.cell? ⟨w.heap.size, 0, none⟩ = some (.int .u8 k.toNat) ∧ w'.cell? ⟨w.heap.size, 1, none⟩ = some (.slice a n c)) (first | (with_reducible exact ⟨c0'', c1''⟩) | (with_reducible exact ⟨c0', c1'⟩) | (simp only [World.cell?_drew]; with_reducible exact ⟨c0, c1⟩) | go_keep) (first
      | (go_at_call 155; refine (headOf_any k a n c hn _).mono ?_; rintro e w1 ⟨h0, h1, h2, h3, h4, h5, h6, h7, hh, rfl, b1⟩; (have b01 : Below w0.heap.size w0 w1 := by first | exact (Below.refl _ _).drew.trans b1 | exact ((Below.refl _ _).drew.alloc (Nat.le_refl _) _).trans (b1.mono (by simp)) | exact (((Below.refl _ _).drew.alloc (Nat.le_refl _) _).alloc (by simp) _).trans (b1.mono (by simp; omega))); have c0' := (b01.cell (p := ⟨w.heap.size, 0, none⟩) (block_lt_of_cell c0)).trans c0; have c1' := (b01.cell (p := ⟨w.heap.size, 1, none⟩) (block_lt_of_cell c1)).trans c1; have B1 := hide (then_below B0.out b01 (Nat.le_refl _)); have l1 := b1.size; have l01 := b01.size; have lt1 : w.heap.size < w1.heap.size := (by omega); have lt1' : w.heap.size < w1.heap.size + 1 := (by omega); have n1 : w1.heap.size ≠ w.heap.size := (by omega); have n1' : w1.heap.size + 1 ≠ w.heap.size := (by omega); have HH := hide hh; (first | (have Z6 : Hid (w1.heap[w0.heap.size]? = some Z8) := heap_keep b1 (heap_alloc_new w0.drew Z8); obtain ⟨zc0, zc1, zc2, zc3, zc4, zc5, zc6, zc7, zf0, zf1, zf2, zf3, zf4, zf5, zf6, zf7⟩ := zero8 Z6.out; have lt6 := lt_heap Z6.out; have lt6' := Nat.lt_succ_of_lt lt6) | (have Z6 : Hid (w1.heap[w0.heap.size + 1]? = some Z8) := heap_keep b1 (heap_alloc2_new w0.drew Z4 Z8); obtain ⟨zc0, zc1, zc2, zc3, zc4, zc5, zc6, zc7, zf0, zf1, zf2, zf3, zf4, zf5, zf6, zf7⟩ := zero8 Z6.out; have lt6 := lt_heap Z6.out; have lt6' := Nat.lt_succ_of_lt lt6) | (have Z6 : Hid (w1.heap[w0.heap.size]? = some Z8) := heap_keep b1 ((heap_alloc_old (w0.drew.alloc Z8) Z4 (by simp)).trans (heap_alloc_new w0.drew Z8)); obtain ⟨zc0, zc1, zc2, zc3, zc4, zc5, zc6, zc7, zf0, zf1, zf2, zf3, zf4, zf5, zf6, zf7⟩ := zero8 Z6.out; have lt6 := lt_heap Z6.out; have lt6' := Nat.lt_succ_of_lt lt6) | skip); (first | (have Z7 : Hid (w1.heap[w0.heap.size]? = some Z4) := heap_keep b1 (heap_alloc_new w0.drew Z4); obtain ⟨yc0, yc1, yc2, yc3, yf0, yf1, yf2, yf3⟩ := zero4 Z7.out; have lt7 := lt_heap Z7.out; have lt7' := Nat.lt_succ_of_lt lt7) | (have Z7 : Hid (w1.heap[w0.heap.size + 1]? = some Z4) := heap_keep b1 (heap_alloc2_new w0.drew Z8 Z4); obtain ⟨yc0, yc1, yc2, yc3, yf0, yf1, yf2, yf3⟩ := zero4 Z7.out; have lt7 := lt_heap Z7.out; have lt7' := Nat.lt_succ_of_lt lt7) | (have Z7 : Hid (w1.heap[w0.heap.size]? = some Z4) := heap_keep b1 ((heap_alloc_old (w0.drew.alloc Z4) Z8 (by simp)).trans (heap_alloc_new w0.drew Z4)); obtain ⟨yc0, yc1, yc2, yc3, yf0, yf1, yf2, yf3⟩ := zero4 Z7.out; have lt7 := lt_heap Z7.out; have lt7' := Nat.lt_succ_of_lt lt7) | skip); clear b1 hh b01; (try simp at l1))
      | (go_at_call 156; refine (sumOf_x _ body _ (HF.out.below (by first | exact B1.out | exact B1.out.alloc B1.out.size _ | exact (B1.out.alloc B1.out.size _).alloc (Nat.le_trans B1.out.size (by simp)) _)) HBM.out).mono ?_; rintro e w2 ⟨s0, s1, s2, s3, hs, rfl, b2⟩; (have b12 : Below w1.heap.size w1 w2 := by first | exact b2 | exact ((Below.refl _ _).alloc (Nat.le_refl _) _).trans (b2.mono (by simp)) | exact (((Below.refl _ _).alloc (Nat.le_refl _) _).alloc (by simp) _).trans (b2.mono (by simp; omega))); have c0'' := (b12.cell (p := ⟨w.heap.size, 0, none⟩) (block_lt_of_cell c0')).trans c0'; have c1'' := (b12.cell (p := ⟨w.heap.size, 1, none⟩) (block_lt_of_cell c1')).trans c1'; have B2 := hide (then_below B1.out b12 (Nat.le_refl _)); have l2 := b2.size; have l12 := b12.size; have lt2 : w.heap.size < w2.heap.size := (by omega); have lt2' : w.heap.size < w2.heap.size + 1 := (by omega); have n2 : w2.heap.size ≠ w.heap.size := (by omega); have n2' : w2.heap.size + 1 ≠ w.heap.size := (by omega); have HS := hide hs; (first | (have Z6 := hide (heap_keep b12 Z6.out); obtain ⟨zc0, zc1, zc2, zc3, zc4, zc5, zc6, zc7, zf0, zf1, zf2, zf3, zf4, zf5, zf6, zf7⟩ := zero8 Z6.out; have lt6 := lt_heap Z6.out; have lt6' := Nat.lt_succ_of_lt lt6) | (have Z6 : Hid (w2.heap[w1.heap.size]? = some Z8) := heap_keep b2 (heap_alloc_new w1 Z8); obtain ⟨zc0, zc1, zc2, zc3, zc4, zc5, zc6, zc7, zf0, zf1, zf2, zf3, zf4, zf5, zf6, zf7⟩ := zero8 Z6.out; have lt6 := lt_heap Z6.out; have lt6' := Nat.lt_succ_of_lt lt6) | (have Z6 : Hid (w2.heap[w1.heap.size + 1]? = some Z8) := heap_keep b2 (heap_alloc2_new w1 Z4 Z8); obtain ⟨zc0, zc1, zc2, zc3, zc4, zc5, zc6, zc7, zf0, zf1, zf2, zf3, zf4, zf5, zf6, zf7⟩ := zero8 Z6.out; have lt6 := lt_heap Z6.out; have lt6' := Nat.lt_succ_of_lt lt6) | (have Z6 : Hid (w2.heap[w1.heap.size]? = some Z8) := heap_keep b2 ((heap_alloc_old (w1.alloc Z8) Z4 (by simp)).trans (heap_alloc_new w1 Z8)); obtain ⟨zc0, zc1, zc2, zc3, zc4, zc5, zc6, zc7, zf0, zf1, zf2, zf3, zf4, zf5, zf6, zf7⟩ := zero8 Z6.out; have lt6 := lt_heap Z6.out; have lt6' := Nat.lt_succ_of_lt lt6) | skip); (first | (have Z7 := hide (heap_keep b12 Z7.out); obtain ⟨yc0, yc1, yc2, yc3, yf0, yf1, yf2, yf3⟩ := zero4 Z7.out; have lt7 := lt_heap Z7.out; have lt7' := Nat.lt_succ_of_lt lt7) | (have Z7 : Hid (w2.heap[w1.heap.size]? = some Z4) := heap_keep b2 (heap_alloc_new w1 Z4); obtain ⟨yc0, yc1, yc2, yc3, yf0, yf1, yf2, yf3⟩ := zero4 Z7.out; have lt7 := lt_heap Z7.out; have lt7' := Nat.lt_succ_of_lt lt7) | (have Z7 : Hid (w2.heap[w1.heap.size + 1]? = some Z4) := heap_keep b2 (heap_alloc2_new w1 Z8 Z4); obtain ⟨yc0, yc1, yc2, yc3, yf0, yf1, yf2, yf3⟩ := zero4 Z7.out; have lt7 := lt_heap Z7.out; have lt7' := Nat.lt_succ_of_lt lt7) | (have Z7 : Hid (w2.heap[w1.heap.size]? = some Z4) := heap_keep b2 ((heap_alloc_old (w1.alloc Z4) Z8 (by simp)).trans (heap_alloc_new w1 Z4)); obtain ⟨yc0, yc1, yc2, yc3, yf0, yf1, yf2, yf3⟩ := zero4 Z7.out; have lt7 := lt_heap Z7.out; have lt7' := Nat.lt_succ_of_lt lt7) | skip); clear b2 hs b12; (try simp at l2)))
    all_goals go_wp2_with fail
    all_goals go_meet
    all_goals refine ⟨_, _, h0, h1, h2, h3, h4, h5, h6, h7, s0, s1, s2, s3, rfl, rfl, HH.out, HS.out, ?_, ?_, ?_, ?_, ?_, ?_, ?_, ?_, ?_, ?_, ?_, ?_, ?_, ?_⟩
    all_goals first | (go_cell; done) | (exact B2.out.trans (by go_grown))
  case rest =>
    obtain ⟨g6, g7, h0, h1, h2, h3, h4, h5, h6, h7, s0, s1, s2, s3, rfl, rfl, hh, hs, bx, cx, p0, p1, p2, p3, p4, p5, p6, p7, r0, r1, r2, r3⟩ := hcut
    have by6 : Bytes wc (.slice (some ⟨g6, 0, none⟩) 8 8) (Fr.headB k n) := by
      rw [hh]
      refine ⟨_, 8, rfl, fun j hj => ⟨g6, 0, rfl, ?_⟩⟩
      have : j = 0 ∨ j = 1 ∨ j = 2 ∨ j = 3 ∨ j = 4 ∨ j = 5 ∨ j = 6 ∨ j = 7 := by simp at hj; omega
      rcases this with rfl | rfl | rfl | rfl | rfl | rfl | rfl | rfl <;> assumption
    have by7 : Bytes wc (.slice (some ⟨g7, 0, none⟩) 4 4) (Fr.msum body) := by
      rw [hs]
      refine ⟨_, 4, rfl, fun j hj => ⟨g7, 0, rfl, ?_⟩⟩
      have : j = 0 ∨ j = 1 ∨ j = 2 ∨ j = 3 := by simp at hj; omega
      rcases this with rfl | rfl | rfl | rfl <;> assumption
    clear p0 p1 p2 p3 p4 p5 p6 p7 r0 r1 r2 r3 c0 c1 hs0 hh hs
    have hnb := HNB.out
    obtain ⟨C, hC⟩ : ∃ C : Nat, C = m + (n + 12) := ⟨_, rfl⟩
    obtain ⟨cs, hmk, hcs⟩ := makeF22 C (by omega) wc
    have bm : Below wc.heap.size wc (wc.alloc (.cells cs 5)) := (Below.refl _ _).alloc (Nat.le_refl _) _
    have rm : RowB (wc.alloc (.cells cs 5)) wc.heap.size C [] := ⟨cs, heap_alloc_new wc _, hcs, fun j hj => by simp [cellsOf] at hj⟩
    have hsz : wc.heap.size ≤ (wc.alloc (.cells cs 5)).heap.size := by simp
    obtain ⟨G1, C1, w1, hr1, _, row1, b1, _, eq1, _⟩ := append_bytes (wc.alloc (.cells cs 5)) wc.heap.size (some ⟨wc.heap.size, 0, none⟩) 0 C [] rfl (.slice av m cv) bs m hbl.symm (HV.out.below (bx.trans (bm.mono bx.size))) hsz (.inr ⟨_, rfl, Nat.le_refl _, Nat.zero_le _, rm⟩) (by omega)
    obtain ⟨e1, d1⟩ := eq1 (by omega)
    rw [d1] at hr1 row1
    clear d1
    obtain rfl : G1 = wc.heap.size := by cases e1; rfl
    rw [Nat.zero_add] at hr1
    rw [List.nil_append] at row1
    have bm1 : Below wc.heap.size wc w1 := bm.trans b1
    obtain ⟨G2, C2, w2, hr2, _, row2, b2, _, eq2, _⟩ := append_bytes w1 wc.heap.size (some ⟨wc.heap.size, 0, none⟩) m C bs hbl.symm (.slice (some ⟨g6, 0, none⟩) 8 8) (Fr.headB k n) 8 rfl (by6.below bm1) bm1.size (.inr ⟨_, rfl, Nat.le_refl _, by omega, row1⟩) (by omega)
    obtain ⟨e2, d2⟩ := eq2 (by omega)
    rw [d2] at hr2 row2
    clear d2
    obtain rfl : G2 = wc.heap.size := by cases e2; rfl
    have bm2 : Below wc.heap.size wc w2 := bm1.trans b2
    obtain ⟨G3, C3, w3, hr3, _, row3, b3, _, eq3, _⟩ := append_bytes w2 wc.heap.size (some ⟨wc.heap.size, 0, none⟩) (m + 8) C (bs ++ Fr.headB k n) (by rw [List.length_append, hbl, Fr.headB_length]) (.slice a n c) body n hnb (HF.out.below (bx.trans (bm2.mono bx.size))) bm2.size (.inr ⟨_, rfl, Nat.le_refl _, by omega, row2⟩) (by omega)
    obtain ⟨e3, d3⟩ := eq3 (by omega)
    rw [d3] at hr3 row3
    clear d3
    obtain rfl : G3 = wc.heap.size := by cases e3; rfl
    have bm3 : Below wc.heap.size wc w3 := bm2.trans b3
    obtain ⟨G4, C4, w4, hr4, _, row4, b4, hle4, eq4, _⟩ := append_bytes w3 wc.heap.size (some ⟨wc.heap.size, 0, none⟩) (m + 8 + n) C (bs ++ Fr.headB k n ++ body) (by rw [List.length_append, List.length_append, hbl, Fr.headB_length, hnb]) (.slice (some ⟨g7, 0, none⟩) 4 4) (Fr.msum body) 4 rfl (by7.below bm3) bm3.size (.inr ⟨_, rfl, Nat.le_refl _, by omega, row3⟩) (by omega)
    obtain ⟨e4, d4⟩ := eq4 (by omega)
    rw [d4] at hr4 row4 hle4
    clear d4
    obtain rfl : G4 = wc.heap.size := by cases e4; rfl
    have bm4 : Below wc.heap.size wc w4 := bm3.trans b4
    have hall : bs ++ Fr.headB k n ++ body ++ Fr.msum body = bs ++ Fr.frameB k body := by
      rw [hnb, Fr.frameB]
      simp only [List.append_assoc]
    rw [hall] at row4
    have hlen : m + 8 + n + 4 = (bs ++ Fr.frameB k body).length := by
      rw [List.length_append, Fr.frameB_length, hbl]
      omega
    have hblk := block_lt_of_cell cx
    have cx2 := (bm2.cell (p := ⟨w.heap.size, 1, none⟩) hblk).trans cx
    have BX := hide (bx.trans (bm4.mono bx.size))
    have hgw : w.heap.size ≤ wc.heap.size := bx.size
    have R4 := hide row4
    have HLEN := hide hlen
    have HCc := hide hC
    have HR1 := hide hr1
    have HR2 := hide hr2
    have HR3 := hide hr3
    have HR4 := hide hr4
    have HMK := hide hmk
    clear hr1 hr2 hr3 hr4 hmk row1 row2 row3 row4 rm bm bm1 bm2 bm3 bm4 b1 b2 b3 b4 hall hlen hcs hsz by6 by7 bx eq1 eq2 eq3 eq4 e1 e2 e3 e4 hnb hC hbl
    go_wp2_with fail
    refine (fsize_any (n : Int) _ (by omega) (by omega)).mono ?_
    rintro e w5 ⟨rfl, hw⟩
    subst hw
    have hCi : (m : Int) + (max (n : Int) 0 + 12) = (C : Int) := by have := HCc.out; omega
    have hmk := HMK.out
    have hCm : (C : Int) ≤ 9223372036854775807 := by have := HCc.out; omega
    generalize max (n : Int) 0 + 12 = N12 at *
    go_wp2_with (at_builtin; first
      | (refine wpList_append_run rfl _ _ 28 rfl _ _ rfl rfl _ _ (HR1.out _) ?_; clear HR1)
      | (refine wpList_append_run rfl _ _ 28 rfl _ _ rfl rfl _ _ (HR2.out _) ?_; clear HR2)
      | (refine wpList_append_run rfl _ _ 28 rfl _ _ rfl rfl _ _ (HR3.out _) ?_; clear HR3)
      | (refine wpList_append_run rfl _ _ 28 rfl _ _ rfl rfl _ _ (HR4.out _) ?_; clear HR4))
    go_ret2
    exact ⟨_, C, m + 8 + n + 4, rfl, HLEN.out, hgw, hle4, R4.out, BX.out⟩
end Go.Proofs.YtjklbhdhjfifhaaGreat

/-
  Parts of a table, put together.
-/
namespace Go.Proofs.YtjklbhdhjfifhaaGreat
open Go.RowKit
set_option maxRecDepth 100000
set_option maxHeartbeats 4000000
section
variable {P : Program}
/-- What append answers: behind 'old', 'news' (n items), in a row of one's own. -/
theorem append_gen3 (w : World) (B : Nat) (t tx e : TypeId) (i : TypeInfo) (z : Value) (ht : P.underlying t = some (.slice e)) (hi : P.info? e = some i) (hz : i.zero = some z) (hzc : z.cells.size = i.size)
    (base : Option Addr) (sLen sCap : Nat) (old : List Value) (hold : old.length = sLen * i.size) (x : Value) (n : Nat) (news : List Value) (hs : Src P i.size tx x n news w) (hB : B ≤ w.heap.size)
    (hbase : (base = none ∧ sLen = 0 ∧ sCap = 0 ∧ 0 < n) ∨ ∃ g, base = some ⟨g, 0, none⟩ ∧ B ≤ g ∧ sLen ≤ sCap ∧ RowC w g e (sCap * i.size) old) (hfit : (sLen + n) * i.bytes ≤ 140737488355328) (hsm : sLen + n ≤ 140737488355328) :
    ∃ g c w', (∀ ty, (Builtin.append_ #[t, tx] ty #[.slice base sLen sCap, x]).run P w = .ok (.slice (some ⟨g, 0, none⟩) (sLen + n) c) w') ∧ B ≤ g ∧ RowC w' g e (c * i.size) (old ++ news) ∧ Below B w w' ∧ sLen + n ≤ c ∧ (sLen + n ≤ sCap → base = some ⟨g, 0, none⟩ ∧ c = sCap) ∧ (sCap < sLen + n → g = w.heap.size) ∧ (∀ b, b < w.heap.size → base ≠ some ⟨b, 0, none⟩ → w'.heap[b]? = w.heap[b]?) := by
  by_cases hroom : sLen + n ≤ sCap
  · rcases hbase with ⟨_, _, _, _⟩ | ⟨g, rfl, hg, hlc, cs, h1, h2, h3⟩
    · omega
    · have hsz : (sLen + n) * i.size ≤ sCap * i.size := Nat.mul_le_mul_right _ hroom
      have hnl := hs.newsLen
      rw [Nat.add_mul] at hsz
      have hr := fun ty => run_append_room_src (P := P) w t tx ty e i ht hi g 0 sLen sCap x n news hs hroom
        (fun j hj => by rw [cell_of_row w g _ cs e (0, 0) h1, Nat.zero_add, Array.getElem?_eq_getElem (by omega)]; rfl)
        (fun j hj => frozen_of_row w g _ cs e h1)
      rw [Nat.zero_add] at hr
      obtain ⟨cs', k1, k2, k3⟩ := heap_setCells g e news (sLen * i.size) w cs h1
      refine ⟨g, sCap, _, hr, hg, ⟨cs', k1, by omega, fun k hk => ?_⟩, below_cells hg _ _ (Below.refl _ _), hroom, fun _ => ⟨rfl, rfl⟩, fun h => by omega, fun b _ hb => heap_setCells_ne g _ _ w b (fun e => hb (by rw [e]))⟩
      rw [List.length_append] at hk
      rw [k3 k (by omega), List.getElem?_append]
      by_cases hk2 : k < old.length
      · rw [if_neg (by omega), if_pos hk2, h3 k hk2]
      · rw [if_pos (by omega), if_neg hk2, hold]
  · have hcap : sCap < sLen + n := by omega
    have hold' : (Builtin.firstCells i.size sLen (.slice base sLen sCap)).run P w.drew = .ok old.toArray w.drew := by
      rcases hbase with ⟨rfl, rfl, rfl, _⟩ | ⟨g, rfl, hg, hlc, cs, h1, h2, h3⟩
      · obtain rfl : old = [] := by simpa using hold
        rfl
      · have := Nat.mul_le_mul_right i.size hlc
        refine run_firstCells_some (P := P) w.drew _ _ _ _ _ old hold (fun j v hv => ?_)
        have hj : j < old.length := by
          rcases Nat.lt_or_ge j old.length with h | h
          · exact h
          · rw [List.getElem?_eq_none h] at hv; cases hv
        rw [Go.WideShapes.add_plain, Nat.zero_add, cell_of_row w.drew g j cs e (0, 0) h1, h3 j hj, hv]
    have hr := fun ty => run_append_grow_src (P := P) w t tx ty e i z ht hi hz base sLen sCap old hold' x n news hs hcap (by omega) (growslice_fits hcap hfit)
    have hge := grownCap_ge w (sLen + n) sCap e
    generalize grownCap w (sLen + n) sCap e = cp at *
    have hnl := hs.newsLen
    refine ⟨w.heap.size, cp, _, hr, hB, ⟨_, heap_alloc_new w.drew _, ?_, fun k hk => ?_⟩, (Below.refl _ _).drew.alloc hB _, hge, fun h => by omega, fun _ => rfl, fun b hb _ => heap_alloc_old w.drew _ hb⟩
    · rw [Array.size_append, size_zeroCells, List.size_toArray, List.length_append, hold, hnl, hzc, ← Nat.add_mul, ← Nat.add_mul]
      exact Nat.mul_le_mul_right _ (by omega)
    · rw [Array.getElem?_append_left (by simpa using hk)]
      simp
end
theorem wpList_append_run2 {P : Program} {ops : Array Oper} {rest : List Oper} {o : Oper} {a : Act} {w : World} {Q : Exit → Act → World → Prop} (hgd : o.guard = none) (s x : Operand) (t tx : TypeId)
    (ho : o.op = .call { callee := .builtin .append, args := #[s, x], argTypes := #[t, tx] }) (vs vx : Value) (hs : a.eval s = vs) (hx : a.eval x = vx) (v : Value) (w' : World)
    (hr : (Builtin.append_ #[t, tx] o.type #[vs, vx]).run P w = .ok v w') (h : wpList P ops Q rest (a.put o.dst v) w') : wpList P ops Q (o :: rest) a w :=
  wpList_plain hgd fun K hK => by
    unfold Oper.wp execOp
    simp only [ho, resolve, invoke, builtin, Sem.run_bind, Sem.run_pure, Result.andThen_ok, List.map_toArray, List.map_cons, List.map_nil, hs, hx, hr]
    exact hK _ _ h
theorem append_str (w : World) (B : Nat) (v : Value) (bs : List (BitVec 8)) (h : Fresh B w v bs) (hB : B ≤ w.heap.size) (s : ByteArray) (news : List (BitVec 8)) (hs : byteCells s = cellsOf news) (hl : s.size = news.length) (hpos : 0 < news.length) (hsm : bs.length + news.length ≤ 140737488355328) :
    ∃ v' w', (∀ ty, (Builtin.append_ #[28, 9] ty #[v, .string s]).run Tryz.prog w = .ok v' w') ∧ Fresh B w' v' (bs ++ news) ∧ Below B w w' := by
  have hsrc : Src Tryz.prog Tryz.t5.size 9 (.string s) news.length (cellsOf news) w := by
    have := Src.ofString (P := Tryz.prog) w Tryz.underlying9 s
    rw [hs, hl] at this
    rw [sz5]
    exact this
  rcases h with ⟨rfl, rfl⟩ | ⟨g, n, c, rfl, hn, hnc, hg, hr⟩
  · obtain ⟨g, c, w', hr, hg, hrow, hb, hc, _⟩ := append_gen3 (P := Tryz.prog) w B 28 9 5 Tryz.t5 (.int .u8 0) Tryz.underlying28 info5 zero5 rfl none 0 0 [] (by simp) _ _ _ hsrc hB (.inl ⟨rfl, rfl, rfl, hpos⟩) (by rw [bytes5]; simpa using hsm) (by simpa using hsm)
    rw [sz5, Nat.mul_one, List.nil_append] at hrow
    exact ⟨_, w', hr, .inr ⟨g, _, c, rfl, by simp, hc, hg, hrow⟩, hb⟩
  · obtain ⟨g', c, w', hr', hg', hrow, hb, hc, _⟩ := append_gen3 (P := Tryz.prog) w B 28 9 5 Tryz.t5 (.int .u8 0) Tryz.underlying28 info5 zero5 rfl (some ⟨g, 0, none⟩) n c (cellsOf bs) (by rw [cellsOf_length, sz5, hn, Nat.mul_one]) _ _ _ hsrc hB (.inr ⟨g, rfl, hg, hnc, by rw [sz5, Nat.mul_one]; exact hr⟩) (by rw [bytes5]; omega) (by omega)
    rw [sz5, Nat.mul_one, ← cellsOf_append] at hrow
    exact ⟨_, w', hr', .inr ⟨g', _, c, rfl, by rw [List.length_append, hn], hc, hg', hrow⟩, hb⟩
/-- A part that was answered: bytes of one's own, no error. -/
def PartOk (B : Nat) (w : World) (v : Value) (bs : List (BitVec 8)) : Prop := ∃ x, v = .agg #[x, .int .i64 0] ∧ Fresh B w x bs
theorem info119 : (Tryz.prog.info? 119).map (·.size) = some 2 := by kernel_rfl
/-- The cell that a part is answered in. -/
structure Cell119 (B : Nat) (w0 w : World) : Prop where
  cell : w.heap[B]? = some (.cells #[.slice none 0 0, .int .i64 0] 119 (0, 0))
  bel : Below B w0 w
  lt : B < w.heap.size
theorem cell119_new (w : World) : Cell119 w.heap.size w (w.alloc (.cells #[.slice none 0 0, .int .i64 0] 119)) :=
  ⟨heap_alloc_new w _, (Below.refl _ _).alloc (Nat.le_refl _) _, by simp⟩
theorem Cell119.quiet {B : Nat} {w0 w w' : World} (h : Cell119 B w0 w) (b : Below w.heap.size w w') : Cell119 B w0 w' :=
  ⟨heap_keep b h.cell, h.bel.trans (b.mono (Nat.le_of_lt h.lt)), Nat.lt_of_lt_of_le h.lt b.size⟩
theorem Cell119.set {B : Nat} {w0 w : World} (h : Cell119 B w0 w) (x : Value) (z : Int) : (w.setRow B #[x, .int .i64 z]).heap[B]? = some (.cells #[x, .int .i64 z] 119 (0, 0)) ∧ Below B w0 (w.setRow B #[x, .int .i64 z]) ∧ Turns (fun k => k = B) w (w.setRow B #[x, .int .i64 z]) := by
  have tr : Turns (fun j => j = B) w (w.setRow B #[x, .int .i64 z]) := ⟨rfl, rfl, rfl, by simp, fun k _ hk => setRow_other _ _ _ _ hk⟩
  exact ⟨setRow_heap _ _ _ _ _ _ h.cell, h.bel.trans (tr.below (Nat.le_of_lt h.lt) (fun k e => by omega)), tr⟩
theorem Fresh.turns {B : Nat} {S : Nat → Prop} {w w' : World} {v : Value} {bs : List (BitVec 8)} (h : Fresh B w v bs) (t : Turns S w w') (hS : ∀ k, B ≤ k → ¬ S k) : Fresh B w' v bs := by
  rcases h with h | ⟨g, n, c, h1, h2, h3, h4, h5⟩
  · exact .inl h
  · exact .inr ⟨g, n, c, h1, h2, h3, h4, h5.turns t (hS g h4)⟩
theorem partOf_any (a : Option Addr) (n c : Nat) (z : Int) (w : World) : Calls Tryz.prog 69 #[.slice a n c, .int .i64 z] w fun e w' => e = .returned (.agg #[.slice a n c, .int .i64 z]) ∧ Below w.heap.size w w' := by
  have HC := hide (cell119_new w)
  have hn := HC.out.cell
  have HN := hide hn
  clear hn
  go_enter Tryz.func69, Tryz.ntmps69
  go_wp2_with (refine wpList_store_row rfl 119 _ _ rfl _ _ rfl rfl _ _ HN.out ?_ ?_ ?_ ?_; (exact info119); (simp only [List.size_toArray, List.length_cons, List.length_nil]); (simp [Value.oneCell']))
  obtain ⟨h1, h2, h3⟩ := HC.out.set (.slice a n c) z
  refine bodyPost_ret (v := .agg #[.slice a n c, .int .i64 z]) ?_ rfl ?_
  · exact results_cell_row Tryz.results69 _ _ _ _ _ _ _ rfl h1 Tryz.underlying119 rfl info119
  · exact ⟨rfl, h2⟩
theorem number_fresh (x : Nat) (hx : x < 18446744073709551616) (w : World) : Calls Tryz.prog 159 #[.slice none 0 0, .int .u64 x] w fun e w' => ∃ v, e = .returned v ∧ Fresh w.heap.size w' v (short x) ∧ Below w.heap.size w w' := by
  have hz := szN_le x
  go_enter Tryz.func159, Tryz.ntmps159
  go_wp2_with fail
  refine (size_any x hx _).mono ?_
  rintro e w1 ⟨rfl, rfl⟩
  obtain ⟨k, hk⟩ : ∃ k : Nat, szN x = (k : Int) := ⟨(szN x).toNat, by omega⟩
  rw [hk] at hz ⊢
  clear hk
  go_wp2_with fail
  refine (extend_nil k (by omega) _).mono ?_
  rintro e w2 ⟨g, rfl, hg, hrow, hb⟩
  go_wp2_with fail
  refine (appendShort_any g k [] 0 rfl x hx _ (Nat.zero_le _) hrow (by omega)).mono ?_
  rintro e w3 ⟨g2, c2, rfl, hc2, hrow2, hb2⟩
  rw [Nat.zero_add] at hc2 ⊢
  have FR := hide (show Fresh w1.heap.size w3 (.slice (some ⟨g2, 0, none⟩) (short x).length c2) (short x) from .inr ⟨g2, _, c2, rfl, rfl, hc2, hb2.ge hb.size hg, hrow2⟩)
  have HB := hide (hb.trans (hb2.below hb.size hg))
  clear hrow2 hb2 hb hrow hc2
  go_wp2_with fail
  go_ret
  exact ⟨_, rfl, FR.out, HB.out⟩
theorem number_part (x : Nat) (hx : x < 18446744073709551616) (w : World) : Calls Tryz.prog 113 #[.int .u64 x] w fun e w' => ∃ v, e = .returned v ∧ PartOk w.heap.size w' v (short x) ∧ Below w.heap.size w w' := by
  have HC := hide (cell119_new w)
  have hsz : w.heap.size + 1 = (w.alloc (.cells #[.slice none 0 0, .int .i64 0] 119)).heap.size := by simp
  have HP := hide (number_fresh x hx (w.alloc (.cells #[.slice none 0 0, .int .i64 0] 119)))
  go_enter Tryz.func113, Tryz.ntmps113
  go_wp2_with fail
  refine HP.out.mono ?_
  rintro e w1 ⟨v, rfl, hf, hb⟩
  obtain ⟨a, c, rfl⟩ := hf.len
  have HF := hide (hf.le (show w.heap.size + 1 ≤ _ by omega))
  have HC := hide (HC.out.quiet hb)
  clear hf hb HP hsz
  go_wp2_with fail
  refine (partOf_any a _ c 0 _).mono ?_
  rintro e w2 ⟨rfl, b2⟩
  have HF := hide (HF.out.below b2)
  have HC := hide (HC.out.quiet b2)
  have HN := hide HC.out.cell
  clear b2
  go_wp2_with (refine wpList_store_row rfl 119 _ _ rfl _ _ rfl rfl _ _ HN.out ?_ ?_ ?_ ?_; (exact info119); (simp only [List.size_toArray, List.length_cons, List.length_nil]); (simp [Value.oneCell']))
  obtain ⟨h1, h2, h3⟩ := HC.out.set (.slice a (short x).length c) 0
  refine bodyPost_ret (v := .agg #[.slice a (short x).length c, .int .i64 0]) ?_ rfl ?_
  · exact results_cell_row Tryz.results113 _ _ _ _ _ _ _ rfl h1 Tryz.underlying119 rfl info119
  · exact ⟨_, rfl, ⟨_, rfl, (HF.out.turns h3 (fun k hk e => by omega)).le (Nat.le_succ _)⟩, h2⟩
theorem piece_part (a : Option Addr) (n c : Nat) (p : List (BitVec 8)) (w : World) (h : Bytes w (.slice a n c) p) (hn : n ≤ 900000) : Calls Tryz.prog 114 #[.slice a n c] w fun e w' => ∃ v, e = .returned v ∧ PartOk w.heap.size w' v (pieceB p) ∧ Below w.heap.size w w' := by
  have HC := hide (cell119_new w)
  have hsz : w.heap.size + 1 = (w.alloc (.cells #[.slice none 0 0, .int .i64 0] 119)).heap.size := by simp
  have HP := hide (piece_nil a n c p (w.alloc (.cells #[.slice none 0 0, .int .i64 0] 119)) (h.below ((Below.refl _ _).alloc (Nat.le_refl _) _)) hn)
  clear h
  go_enter Tryz.func114, Tryz.ntmps114
  go_wp2_with fail
  refine HP.out.mono ?_
  rintro e w1 ⟨v, rfl, hf, hb⟩
  obtain ⟨a', c', rfl⟩ := hf.len
  have HF := hide (hf.le (show w.heap.size + 1 ≤ _ by omega))
  have HC := hide (HC.out.quiet hb)
  clear hf hb HP hsz
  generalize (pieceB p).length = np at *
  go_wp2_with fail
  refine (partOf_any a' np c' 0 _).mono ?_
  rintro e w2 ⟨rfl, b2⟩
  have HF := hide (HF.out.below b2)
  have HC := hide (HC.out.quiet b2)
  have HN := hide HC.out.cell
  clear b2
  go_wp2_with (refine wpList_store_row rfl 119 _ _ rfl _ _ rfl rfl _ _ HN.out ?_ ?_ ?_ ?_; (exact info119); (simp only [List.size_toArray, List.length_cons, List.length_nil]); (simp [Value.oneCell']))
  obtain ⟨h1, h2, h3⟩ := HC.out.set (.slice a' np c') 0
  refine bodyPost_ret (v := .agg #[.slice a' np c', .int .i64 0]) ?_ rfl ?_
  · exact results_cell_row Tryz.results114 _ _ _ _ _ _ _ rfl h1 Tryz.underlying119 rfl info119
  · exact ⟨_, rfl, ⟨_, rfl, (HF.out.turns h3 (fun k hk e => by omega)).le (Nat.le_succ _)⟩, h2⟩
theorem framed_ok (k : BitVec 8) (a : Option Addr) (n c : Nat) (body : List (BitVec 8)) (w : World) (h : Bytes w (.slice a n c) body) (hn : n ≤ 1048576) :
    Calls Tryz.prog 68 #[.int .u8 k.toNat, .agg #[.slice a n c, .int .i64 0]] w fun e w' => ∃ v, e = .returned v ∧ PartOk w.heap.size w' v (Fr.frameB k body) ∧ Below w.heap.size w w' := by
  have b0 : Below w.heap.size w (w.alloc (.cells #[.slice a n c, .int .i64 0] 119)) := (Below.refl _ _).alloc (Nat.le_refl _) _
  have hS : (w.alloc (.cells #[.slice a n c, .int .i64 0] 119)).heap.size = w.heap.size + 1 := by simp
  have HC := hide (cell119_new (w.alloc (.cells #[.slice a n c, .int .i64 0] 119)))
  rw [hS] at HC
  have hb1 := b0.trans ((HC.out.bel).mono (show w.heap.size ≤ w.heap.size + 1 by omega))
  have HP := hide (append_any (.slice none 0 0) [] k a n c body ((w.alloc (.cells #[.slice a n c, .int .i64 0] 119)).alloc (.cells #[.slice none 0 0, .int .i64 0] 119)) (Bytes.empty _) (h.below hb1) hn (by simp))
  have hsz : w.heap.size + 2 = ((w.alloc (.cells #[.slice a n c, .int .i64 0] 119)).alloc (.cells #[.slice none 0 0, .int .i64 0] 119)).heap.size := by simp
  have HB0 := hide b0
  clear h hb1 b0 hS
  go_enter Tryz.func68, Tryz.ntmps68
  go_wp2_with fail
  refine HP.out.mono ?_
  rintro e w1 ⟨g, cp, m, rfl, hm, hg, hcp, hrow, hb⟩
  rw [List.nil_append] at hm hrow
  have HF := hide (show Fresh (w.heap.size + 2) w1 (.slice (some ⟨g, 0, none⟩) m cp) (Fr.frameB k body) from .inr ⟨g, m, cp, rfl, hm, hcp, by omega, hrow⟩)
  have HC := hide (HC.out.quiet hb)
  clear hm hg hrow hb HP hsz
  go_wp2_with fail
  refine (partOf_any (some ⟨g, 0, none⟩) m cp 0 _).mono ?_
  rintro e w2 ⟨rfl, b2⟩
  have HF := hide (HF.out.below b2)
  have HC := hide (HC.out.quiet b2)
  have HN := hide HC.out.cell
  clear b2
  go_wp2_with (refine wpList_store_row rfl 119 _ _ rfl _ _ rfl rfl _ _ HN.out ?_ ?_ ?_ ?_; (exact info119); (simp only [List.size_toArray, List.length_cons, List.length_nil]); (simp [Value.oneCell']))
  obtain ⟨h1, h2, h3⟩ := HC.out.set (.slice (some ⟨g, 0, none⟩) m cp) 0
  refine bodyPost_ret (v := .agg #[.slice (some ⟨g, 0, none⟩) m cp, .int .i64 0]) ?_ rfl ?_
  · exact results_cell_row Tryz.results68 _ _ _ _ _ _ _ rfl h1 Tryz.underlying119 rfl info119
  · exact ⟨_, rfl, ⟨_, rfl, (HF.out.turns h3 (fun k hk e => by omega)).le (by omega)⟩, HB0.out.trans (h2.mono (by omega))⟩
/-- What ends a table. -/
def markB : List (BitVec 8) := [98#8, 111#8, 111#8, 116#8, 109#8, 97#8, 114#8, 107#8]
theorem endOf_ok (x : Nat) (hx : x < 9223372036854775808) (w : World) : Calls Tryz.prog 74 #[.int .i64 x] w fun e w' => ∃ v, e = .returned v ∧ PartOk w.heap.size w' v (ordB x ++ markB) ∧ Below w.heap.size w w' := by
  have HC := hide (cell119_new w)
  have HP := hide (ordered_nil x (w.alloc (.cells #[.slice none 0 0, .int .i64 0] 119)))
  have hsz : w.heap.size + 1 = (w.alloc (.cells #[.slice none 0 0, .int .i64 0] 119)).heap.size := by simp
  have hx2 : (x : Int) < 18446744073709551616 := by omega
  go_enter Tryz.func74, Tryz.ntmps74
  go_wp2_with fail
  refine HP.out.mono ?_
  rintro e w1 ⟨v, rfl, hf, hb⟩
  obtain ⟨v2, w2, hr2, hf2, hb2⟩ := append_str w1 (w.heap.size + 1) v (ordB x) (hf.le (by omega)) (by have := hb.size; omega) ⟨#[98, 111, 111, 116, 109, 97, 114, 107]⟩ markB (by rfl) rfl (by decide) (show 16 ≤ 140737488355328 by decide)
  have HC := hide (HC.out.quiet hb)
  have hc2 : Cell119 w.heap.size w w2 := ⟨by rw [hb2.block _ (by omega)]; exact HC.out.cell, HC.out.bel.trans (hb2.mono (by omega)), Nat.lt_of_lt_of_le HC.out.lt hb2.size⟩
  obtain ⟨a', c', rfl⟩ := hf2.len
  have HF := hide hf2
  have HC := hide hc2
  have HQ := hide hr2
  clear hf hb HP hsz hf2 hb2 hc2 hr2
  have hl16 : (ordB x ++ markB).length = 16 := rfl
  rw [hl16] at HQ
  go_wp2_with (at_builtin; refine wpList_append_run2 rfl _ _ 28 9 rfl _ _ rfl rfl _ _ (HQ.out _) ?_)
  refine (partOf_any a' 16 c' 0 _).mono ?_
  rintro e w3 ⟨rfl, b2⟩
  have HF := hide (HF.out.below b2)
  have HC := hide (HC.out.quiet b2)
  have HN := hide HC.out.cell
  clear b2
  go_wp2_with (refine wpList_store_row rfl 119 _ _ rfl _ _ rfl rfl _ _ HN.out ?_ ?_ ?_ ?_; (exact info119); (simp only [List.size_toArray, List.length_cons, List.length_nil]); (simp [Value.oneCell']))
  obtain ⟨h1, h2, h3⟩ := HC.out.set (.slice a' 16 c') 0
  refine bodyPost_ret (v := .agg #[.slice a' 16 c', .int .i64 0]) ?_ rfl ?_
  · exact results_cell_row Tryz.results74 _ _ _ _ _ _ _ rfl h1 Tryz.underlying119 rfl info119
  · exact ⟨_, rfl, ⟨_, rfl, (HF.out.turns h3 (fun k hk e => by omega)).le (Nat.le_succ _)⟩, h2⟩
end Go.Proofs.YtjklbhdhjfifhaaGreat

/-
  All parts, one behind the other.
-/
namespace Go.Proofs.YtjklbhdhjfifhaaGreat
open Go.RowKit
set_option maxRecDepth 100000
set_option maxHeartbeats 4000000
/-- A part in a row: where its bytes lie, which they are. -/
structure Pt where
  a : Option Addr
  c : Nat
  bs : List (BitVec 8)
def Pt.v (x : Pt) : Value := .slice x.a x.bs.length x.c
/-- Parts, one behind the other, none with an error. -/
def Pts (w : World) (a : Option Addr) (l : List Pt) : Prop :=
  ∀ k x, l[k]? = some x → (∃ b off, a = some ⟨b, off, none⟩ ∧ w.cell? ⟨b, off + k * 2, none⟩ = some x.v ∧ w.cell? ⟨b, off + k * 2 + 1, none⟩ = some (.int .i64 0)) ∧ Bytes w x.v x.bs ∧ 0 < x.bs.length
theorem Pts.below {w w' : World} {a : Option Addr} {l : List Pt} (h : Pts w a l) (hb : Below w.heap.size w w') : Pts w' a l := fun k x hx => by
  obtain ⟨⟨b, off, h1, h2, h3⟩, h4, h5⟩ := h k x hx
  have t := Turns.of_below hb (fun _ => False)
  exact ⟨⟨b, off, h1, t.cell h2 (fun x => x), t.cell h3 (fun x => x)⟩, h4.below hb, h5⟩
def allB (l : List Pt) : List (BitVec 8) := l.flatMap (·.bs)
theorem allB_take {l : List Pt} {k : Nat} {x : Pt} (hx : l[k]? = some x) : allB (l.take (k + 1)) = allB (l.take k) ++ x.bs := by
  unfold allB
  rw [List.take_add_one, hx, List.flatMap_append]
  simp
theorem allB_le (l : List Pt) (k : Nat) : (allB (l.take k)).length ≤ (allB l).length := by
  have h : allB l = allB (l.take k) ++ allB (l.drop k) := by unfold allB; rw [← List.flatMap_append, List.take_append_drop]
  rw [h, List.length_append]
  omega
theorem together_ok (a : Option Addr) (n c : Nat) (l : List Pt) (w : World) (h : Pts w a l) (hn : n = l.length) (hnb : n ≤ 1000000) (hl : (allB l).length ≤ 100000000) :
    Calls Tryz.prog 72 #[.slice a n c] w fun e w' => ∃ v, e = .returned v ∧ PartOk w.heap.size w' v (allB l) ∧ Below w.heap.size w w' := by
  have HP := hide h
  have HN := hide hn
  have HL := hide hl
  have HC := hide (cell119_new w)
  clear h hn hl
  go_enter Tryz.func72, Tryz.ntmps72
  go_wp2_with fail
  have HB0 := hide (show Below w.heap.size w (w.alloc (.cells #[.slice none 0 0, .int .i64 0] 119)) from (Below.refl _ _).alloc (Nat.le_refl _) _)
  go_loopw [3, 8] (fun ov iv wr => ∃ k : Nat, iv = .int .i64 (k : Nat) ∧ k ≤ n ∧ Fresh (w.heap.size + 1) wr ov (allB (l.take k)) ∧ Cell119 w.heap.size w wr) (fun _ iv _ => n - (intOf iv).toNat)
  case atStart => exact ⟨0, rfl, Nat.zero_le _, .inl ⟨rfl, rfl⟩, HC.out⟩
  case round =>
    obtain ⟨k, rfl, hk, hf, hc⟩ := hrel
    have HF := hide hf
    have HC := hide hc
    clear hf hc
    by_cases hk2 : k < n
    · have i1 : (k : Int) < n := by omega
      have i0 : (0 : Int) ≤ (k : Int) := by omega
      obtain ⟨x, hx⟩ : ∃ x, l[k]? = some x := ⟨_, List.getElem?_eq_getElem (by have := HN.out; omega)⟩
      obtain ⟨⟨b, off, rfl, c0, c1⟩, hb, hpos⟩ := (HP.out.below HC.out.bel) k x hx
      have HTK := hide (allB_take hx)
      have hle := allB_le l k
      have hle2 := allB_le l (k + 1)
      rw [HTK.out, List.length_append] at hle2
      have hs := HC.out.lt
      obtain ⟨oa, oc, rfl⟩ := HF.out.len
      obtain ⟨xa, xc, xbs⟩ := x
      have b0 : Below wr.heap.size wr (wr.alloc (.cells #[.slice xa xbs.length xc, .int .i64 0] 119)) := (Below.refl _ _).alloc (Nat.le_refl _) _
      obtain ⟨v2, w2, hr2, hf2, hb2, ht2⟩ := append_fresh (wr.alloc (.cells #[.slice xa xbs.length xc, .int .i64 0] 119)) (w.heap.size + 1) (.slice oa (allB (l.take k)).length oc) (allB (l.take k)) (HF.out.below b0) (by have := b0.size; omega) (.slice xa xbs.length xc) xbs (hb.below b0) hpos (by have := HL.out; simp only at hle2; omega)
      change wr.cell? ⟨b, off + k * 2, none⟩ = some (.slice xa xbs.length xc) at c0
      have HQ := hide hr2
      rw [show allB (l.take k) ++ xbs = allB (l.take (k + 1)) from HTK.out.symm] at hf2
      obtain ⟨va, vcc, rfl⟩ := hf2.len
      have HF2 := hide hf2
      have hcx := HC.out.quiet b0
      have HC2 := hide (show Cell119 w.heap.size w w2 from ⟨by rw [hb2.block _ (by omega)]; exact hcx.cell, hcx.bel.trans (hb2.mono (by omega)), Nat.lt_of_lt_of_le hcx.lt hb2.size⟩)
      clear hcx b0
      clear hr2 hf2 hb2 ht2 hb hx hle hle2 HF HTK
      generalize (allB (l.take k)).length = ol at *
      generalize (allB (l.take (k + 1))).length = ol2 at HQ HF2
      go_wp2_with (at_builtin; refine wpList_append_run rfl _ _ 28 rfl _ _ rfl rfl _ _ (HQ.out _) ?_)
      go_roundw
      case rel => exact ⟨k + 1, by go_num, by omega, HF2.out, HC2.out⟩
      case measure => simp [intOf]; omega
    · have i1 : ¬ (k : Int) < n := by omega
      obtain ⟨oa, oc, rfl⟩ := HF.out.len
      have hkl : l.take k = l := List.take_of_length_le (by have := HN.out; omega)
      rw [hkl] at HF ⊢
      generalize (allB l).length = ol at *
      go_wp2_with fail
      refine (partOf_any oa ol oc 0 _).mono ?_
      rintro e w2 ⟨rfl, b2⟩
      have HF := hide (HF.out.below b2)
      have HC := hide (HC.out.quiet b2)
      have HNN := hide HC.out.cell
      clear b2
      go_wp2_with (refine wpList_store_row rfl 119 _ _ rfl _ _ rfl rfl _ _ HNN.out ?_ ?_ ?_ ?_; (exact info119); (simp only [List.size_toArray, List.length_cons, List.length_nil]); (simp [Value.oneCell']))
      obtain ⟨h1, h2, h3⟩ := HC.out.set (.slice oa ol oc) 0
      refine bodyPost_ret (v := .agg #[.slice oa ol oc, .int .i64 0]) ?_ rfl ?_
      · exact results_cell_row Tryz.results72 _ _ _ _ _ _ _ rfl h1 Tryz.underlying119 rfl info119
      · exact ⟨_, rfl, ⟨_, rfl, (HF.out.turns h3 (fun k hk e => by omega)).le (Nat.le_succ _)⟩, h2⟩
end Go.Proofs.YtjklbhdhjfifhaaGreat
