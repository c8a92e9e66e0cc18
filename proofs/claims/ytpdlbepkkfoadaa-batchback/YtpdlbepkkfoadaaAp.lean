/-
  Numbers, pieces and writes behind bytes of one's own.
-/
import Derived.Test.YtpdlbepkkfoadaaAn
namespace Go.Proofs.Ytpdlbepkkfoadaa
open Go.RowKit
set_option maxRecDepth 100000
set_option maxHeartbeats 4000000
theorem number_nil (x : Nat) (hx : x < 18446744073709551616) (w : World) : Calls Try.prog 41 #[.slice none 0 0, .int .u64 x] w fun e w' => ∃ g c, e = .returned (.slice (some ⟨g, 0, none⟩) (short x).length c) ∧ w.heap.size ≤ g ∧ RowB w' g c (short x) ∧ Below w.heap.size w w' := by
  have hz := szN_le x
  go_enter Try.func41, Try.ntmps41
  go_wp2_with fail
  refine (size_any x hx _).mono ?_
  rintro e w1 ⟨rfl, rfl⟩
  obtain ⟨k, hk⟩ : ∃ k : Nat, szN x = (k : Int) := ⟨(szN x).toNat, by omega⟩
  rw [hk] at hz ⊢
  clear hk
  go_wp2_with fail
  refine (extend_nil k (by omega) _).mono ?_
  rintro e w2 ⟨g, rfl, hg, hrow, hb⟩
  go_wp2_with fail
  refine (appendShort_any g k [] 0 rfl x hx _ (Nat.zero_le _) hrow (by omega)).mono ?_
  rintro e w3 ⟨g2, c2, rfl, hc2, hrow2, hb2⟩
  rw [Nat.zero_add]
  have HR := hide hrow2
  have HG := hide (hb2.ge hb.size hg)
  have HB := hide (hb.trans (hb2.below hb.size hg))
  clear hrow2 hb2 hb hrow hc2
  go_wp2_with fail
  go_ret
  exact ⟨g2, c2, rfl, HG.out, HR.out, HB.out⟩
theorem appendNumber_any (g c : Nat) (bs : List (BitVec 8)) (m : Nat) (hm : m = bs.length) (x : Nat) (hx : x < 18446744073709551616) (w : World) (hmc : m ≤ c) (hrow : RowB w g c bs) (hb : m ≤ 800000000) :
    Calls Try.prog 25 #[.slice (some ⟨g, 0, none⟩) m c, .int .u64 x] w fun e w' => ∃ g' c', e = .returned (.slice (some ⟨g', 0, none⟩) (m + (short x).length) c') ∧ m + (short x).length ≤ c' ∧ RowB w' g' c' (bs ++ short x) ∧ Grow g w g' w' := by
  have HR := hide hrow
  have HM := hide hm
  have hl := short_len x hx
  clear hrow hm
  go_enter Try.func25, Try.ntmps25
  go_wp2_with fail
  refine (number_nil x hx _).mono ?_
  rintro e w1 ⟨g1, c1, rfl, hg1, hrow1, hb1⟩
  obtain ⟨g2, c2, w2, hr, hc2, hrow2, hb2⟩ := append_grow w1 g m c bs HM.out (.slice (some ⟨g1, 0, none⟩) (short x).length c1) (short x) _ rfl (RowB.bytes hrow1 rfl) hmc (RowC.below HR.out hb1) (by omega)
  have HA := hide hr
  have HR2 := hide hrow2
  have HB2 := hide (hb2.before hb1)
  clear hr hrow2 hb2 hrow1 hb1
  generalize hL : (short x).length = L at *
  have HL := hide hL
  clear hL
  go_wp2_with (at_builtin; refine wpList_append_run rfl (.tmp 5) (.tmp 7) 22 rfl (.slice (some ⟨g, 0, none⟩) m c) (.slice (some ⟨g1, 0, none⟩) L c1) rfl rfl _ _ (HA.out _) ?_)
  go_ret
  refine ⟨g2, c2, ?_, ?_, HR2.out, HB2.out⟩
  · rw [HL.out]; rfl
  · rw [HL.out]; exact hc2
theorem pieceB_len (p : List (BitVec 8)) : (pieceB p).length = (short p.length).length + p.length := by simp [pieceB]
theorem appendPiece_any (g c : Nat) (bs : List (BitVec 8)) (m : Nat) (hm : m = bs.length) (a : Option Addr) (n cp : Nat) (p : List (BitVec 8)) (w : World) (hmc : m ≤ c) (hrow : RowB w g c bs) (hb : m ≤ 700000000)
    (hp : ∀ w', Turns (fun k => k = g) w w' → Bytes w' (.slice a n cp) p) (hn : n ≤ 100000) :
    Calls Try.prog 42 #[.slice (some ⟨g, 0, none⟩) m c, .slice a n cp] w fun e w' => ∃ g' c', e = .returned (.slice (some ⟨g', 0, none⟩) (m + (pieceB p).length) c') ∧ m + (pieceB p).length ≤ c' ∧ RowB w' g' c' (bs ++ pieceB p) ∧ Grow g w g' w' := by
  have hl := (hp w (Turns.refl _ _)).len
  have HR := hide hrow
  have HM := hide hm
  have HP := hide hp
  have HL := hide hl
  clear hrow hm hp hl
  go_enter Try.func42, Try.ntmps42
  go_wp2_with fail
  refine (appendNumber_any g c bs m HM.out n (by omega) _ hmc HR.out (by omega)).mono ?_
  rintro e w1 ⟨g1, c1, rfl, hc1, hrow1, hb1⟩
  have hsl := short_len n (by omega)
  obtain ⟨g2, c2, w2, hr, hc2, hrow2, hb2⟩ := append_grow w1 g1 (m + (short n).length) c1 (bs ++ short n) (by rw [List.length_append, ← HM.out]) (.slice a n cp) p n HL.out (HP.out w1 hb1.turns) hc1 hrow1 (by omega)
  have hfin : m + (short n).length + n = m + (pieceB p).length := by rw [pieceB_len, ← HL.out]; omega
  have hpc : bs ++ short n ++ p = bs ++ pieceB p := by rw [pieceB, ← HL.out, List.append_assoc]
  rw [hpc] at hrow2
  have HA := hide hr
  have HR2 := hide hrow2
  have HB2 := hide (hb1.trans hb2)
  have HF := hide hfin
  clear hr hrow2 hb2 hrow1 hb1 hpc hfin hc1
  generalize (short n).length = L at *
  go_wp2_with (at_builtin; refine wpList_append_run rfl (.tmp 9) (.tmp 10) 22 rfl (.slice (some ⟨g1, 0, none⟩) (m + L) c1) (.slice a n cp) rfl rfl _ _ (HA.out _) ?_)
  go_ret
  refine ⟨g2, c2, ?_, ?_, HR2.out, HB2.out⟩
  · rw [← HF.out]; rfl
  · rw [← HF.out]; exact hc2
theorem writeB_len1 (key val : List (BitVec 8)) : (writeB (1, key, val)).length = 1 + (pieceB key).length + (pieceB val).length := by simp [writeB]; omega
theorem appendWrite_any (g c : Nat) (bs : List (BitVec 8)) (m : Nat) (hm : m = bs.length) (y : Nat) (hy : y < 256) (ka va : Option Addr) (kn kc vn vc : Nat) (key val : List (BitVec 8)) (w : World) (hmc : m ≤ c) (hrow : RowB w g c bs) (hb : m ≤ 600000000)
    (hkey : ∀ w', Turns (fun k => k = g) w w' → Bytes w' (.slice ka kn kc) key) (hval : ∀ w', Turns (fun k => k = g) w w' → Bytes w' (.slice va vn vc) val) (hkn : kn ≤ 100000) (hvn : vn ≤ 100000) :
    Calls Try.prog 26 #[.slice (some ⟨g, 0, none⟩) m c, .agg #[.int .i64 (y : Int), .slice ka kn kc, .slice va vn vc]] w fun e w' => ∃ g' c', e = .returned (.slice (some ⟨g', 0, none⟩) (m + (writeB ((y : Int), key, val)).length) c') ∧ m + (writeB ((y : Int), key, val)).length ≤ c' ∧ RowB w' g' c' (bs ++ writeB ((y : Int), key, val)) ∧ Grow g w g' w' := by
  have hkl := (hkey w (Turns.refl _ _)).len
  have hvl := (hval w (Turns.refl _ _)).len
  have hglt : g < w.heap.size := by
    obtain ⟨cs, h1, _⟩ := hrow
    exact lt_of_heap h1
  have b0 := (Below.refl w.heap.size w).alloc (Nat.le_refl _) (.cells #[.int .i64 (y : Int), .slice ka kn kc, .slice va vn vc] 24)
  have hnew := heap_alloc_new w (.cells #[.int .i64 (y : Int), .slice ka kn kc, .slice va vn vc] 24)
  obtain ⟨g1, c1, w1, hr, hc1, hrow1, hg1⟩ := append_nat (w.alloc (.cells #[.int .i64 (y : Int), .slice ka kn kc, .slice va vn vc] 24)) g m c bs hm y hy (RowC.below hrow b0) hmc (by omega)
  have hbox := hg1.turns.heap hnew (by omega)
  rw [World.size_alloc] at hr
  have HBOX := hide hbox
  have hG1 : Grow g w g1 w1 := hg1.before b0
  have G1 := hide hG1
  have HA := hide hr
  have HR1 := hide hrow1
  have HM := hide hm
  have HK := hide hkey
  have HV := hide hval
  have HKL := hide hkl
  have HVL := hide hvl
  have f1 : w1.cell? ⟨w.heap.size, 1, none⟩ = some (.slice ka kn kc) := cell_of_row w1 _ 1 _ 24 (0, 0) hbox
  have hne1 : ¬ w.heap.size = g1 := by
    rcases hg1.own with e | e
    · omega
    · rw [World.size_alloc] at e; omega
  clear b0 hnew hr hrow1 hG1 hm hkey hval hkl hvl hrow hbox hg1
  go_enter Try.func26, Try.ntmps26
  go_wp2_with (at_builtin; refine wpList_append_run rfl (.tmp 5) (.tmp 9) 22 rfl (.slice (some ⟨g, 0, none⟩) m c) (.slice (some ⟨w.heap.size + 1, 0, none⟩) 1 1) rfl rfl _ _ (HA.out _) ?_)
  refine (appendPiece_any g1 c1 _ (m + 1) (by rw [List.length_append, ← HM.out]; rfl) ka kn kc key _ hc1 HR1.out (by omega) (fun w' ht => HK.out w' (G1.out.turns.andThen ht fun j hj e => by rcases G1.out.own with x | x; exact e.trans x; omega)) hkn).mono ?_
  rintro e w2 ⟨g2, c2, rfl, hc2, hrow2, hg2⟩
  have hbox2 := hg2.turns.heap HBOX.out hne1
  have f2 : w2.cell? ⟨w.heap.size, 0, none⟩ = some (.int .i64 (y : Int)) := cell_of_row w2 _ 0 _ 24 (0, 0) hbox2
  have f3 : w2.cell? ⟨w.heap.size, 2, none⟩ = some (.slice va vn vc) := cell_of_row w2 _ 2 _ 24 (0, 0) hbox2
  have hpl : (pieceB key).length ≤ 100010 := by rw [pieceB_len, ← HKL.out]; have := short_len kn (by omega); omega
  have G2 := hide (G1.out.trans hg2)
  have HR2 := hide hrow2
  clear hg2 hrow2 hbox2 f1
  by_cases hy1 : y = 1
  · subst hy1
    have hlen : (writeB (((1 : Nat) : Int), key, val)).length = 1 + (pieceB key).length + (pieceB val).length := writeB_len1 key val
    have HLEN := hide hlen
    have heq : bs ++ [BitVec.ofNat 8 1] ++ pieceB key ++ pieceB val = bs ++ writeB (((1 : Nat) : Int), key, val) := by simp [writeB]
    have HEQ := hide heq
    clear hlen heq
    have f2' : w2.cell? ⟨w.heap.size, 0, none⟩ = some (.int .i64 1) := f2
    clear f2
    generalize hPL : (pieceB key).length = PL at *
    have HPL := hide hPL
    clear hPL
    go_wp2_with fail
    refine (appendPiece_any g2 c2 _ (m + 1 + PL) (by rw [List.length_append, List.length_append, ← HM.out, HPL.out]; rfl) va vn vc val _ hc2 HR2.out (by omega) (fun w' ht => HV.out w' (G2.out.turns.andThen ht fun j hj e => by rcases G2.out.own with x | x; exact e.trans x; omega)) hvn).mono ?_
    rintro e w3 ⟨g3, c3, rfl, hc3, hrow3, hg3⟩
    have G3 := hide (G2.out.trans hg3)
    rw [HEQ.out] at hrow3
    have HR3 := hide hrow3
    clear hg3 hrow3
    have hfin : m + 1 + PL + (pieceB val).length = m + (writeB (((1 : Nat) : Int), key, val)).length := by rw [HLEN.out, ← HPL.out]; omega
    have HFIN := hide hfin
    clear hfin
    generalize (pieceB val).length = VL at *
    go_wp2_with fail
    go_ret
    refine ⟨g3, c3, ?_, ?_, HR3.out, G3.out⟩
    · rw [← HFIN.out]; rfl
    · rw [← HFIN.out]; exact hc3
  · have hy1' : ¬ (y : Int) = 1 := by omega
    have hfin : m + 1 + (pieceB key).length = m + (writeB ((y : Int), key, val)).length := by simp [writeB, hy1']; omega
    have heq : bs ++ [BitVec.ofNat 8 y] ++ pieceB key = bs ++ writeB ((y : Int), key, val) := by simp [writeB, hy1']
    have HFIN := hide hfin
    have HEQ := hide heq
    clear hfin heq
    generalize (pieceB key).length = PL at *
    go_wp2_with fail
    go_ret
    refine ⟨g2, c2, ?_, ?_, ?_, G2.out⟩
    · rw [← HFIN.out]; rfl
    · rw [← HFIN.out]; exact hc2
    · rw [← HEQ.out]; exact HR2.out
end Go.Proofs.Ytpdlbepkkfoadaa
