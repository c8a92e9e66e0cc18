/-
  Restarts' places behind bytes; are entries in order? how many bytes has a block?
-/
import Derived.Test.YtolaaodhnhdadaaB3
import Derived.Test.YtolaaodhnhdadaaB4
namespace Go.Proofs.Ytolaaodhnhdadaa
open Go.RowKit
set_option maxRecDepth 100000
set_option maxHeartbeats 4000000
/-- Numbers in memory. -/
def IntsAt (w : World) (v : Value) (l : List Nat) : Prop :=
  ∃ (a : Option Addr) (c : Nat), v = .slice a l.length c ∧ ∀ k x, l[k]? = some x → ∃ b off, a = some ⟨b, off, none⟩ ∧ w.cell? ⟨b, off + k, none⟩ = some (.int .i64 (x : Nat))
theorem IntsAt.turns {S : Nat → Prop} {w w' : World} {v : Value} {l : List Nat} (h : IntsAt w v l) (t : Turns S w w') (hS : ∀ a n c, v = .slice (some a) n c → ¬ S a.block) : IntsAt w' v l := by
  obtain ⟨a, c, rfl, hx⟩ := h
  refine ⟨a, c, rfl, fun k x hk => ?_⟩
  obtain ⟨b, off, rfl, hc⟩ := hx k x hk
  exact ⟨b, off, rfl, t.cell hc (hS ⟨b, off, none⟩ _ _ rfl)⟩
theorem bytes4 {w : World} {b n : Nat} (h : w.heap[b]? = some (.cells #[by4 n 0, by4 n 1, by4 n 2, by4 n 3] 67 (0, 0))) : Bytes w (.slice (some ⟨b, 0, none⟩) 4 4) (four n) := by
  refine ⟨_, 4, rfl, fun k hk => ⟨b, 0, rfl, ?_⟩⟩
  have hk4 : k < 4 := hk
  rw [Nat.zero_add, cell_of_row w b k _ 67 (0, 0) h]
  have hcase : k = 0 ∨ k = 1 ∨ k = 2 ∨ k = 3 := by omega
  rcases hcase with rfl | rfl | rfl | rfl
  all_goals simp [four, by4]
theorem appendPlaces_any (g c m : Nat) (bs : List (BitVec 8)) (hm : m = bs.length) (a : Option Addr) (n ca : Nat) (l : List Nat) (w : World) (hmc : m ≤ c) (hrow : RowB w g c bs) (hi : IntsAt w (.slice a n ca) l) (hg : ∀ x, a = some x → x.block ≠ g) (hn : n ≤ 100000) (hm2 : m ≤ 300000) (hl : ∀ x ∈ l, x ≤ 1000000000) :
    Calls Try.prog 24 #[.slice (some ⟨g, 0, none⟩) m c, .slice a n ca] w fun e w' => ∃ g' c', e = .returned (.slice (some ⟨g', 0, none⟩) (m + 4 * l.length + 4) c') ∧ m + 4 * l.length + 4 ≤ c' ∧ RowB w' g' c' (bs ++ (l.flatMap four ++ four l.length)) ∧ Grow g w g' w' := by
  have hglt : g < w.heap.size := by
    obtain ⟨cs, h1, _⟩ := hrow
    exact lt_of_heap h1
  have hnl : n = l.length := by
    obtain ⟨_, _, e, _⟩ := hi
    cases e
    rfl
  have b0 := (Below.refl w.heap.size w).alloc (Nat.le_refl _) (.cells #[.int .u8 0, .int .u8 0, .int .u8 0, .int .u8 0] 67)
  have hnew := heap_alloc_new w (.cells #[.int .u8 0, .int .u8 0, .int .u8 0, .int .u8 0] 67)
  have HR := hide (show RowB _ g c bs from RowC.below hrow b0)
  have HI := hide hi
  have B0 := hide b0
  have HNEW := hide hnew
  have HM := hide hm
  have HNL := hide hnl
  have HLL := hide hl
  have HG := hide hg
  have hsz : (w.alloc (.cells #[.int .u8 0, .int .u8 0, .int .u8 0, .int .u8 0] 67)).heap.size = w.heap.size + 1 := by simp
  have HSZ := hide hsz
  clear hrow hi b0 hnew hm hnl hl hg hsz
  go_enter Try.func24, Try.ntmps24
  go_wp2_with fail
  generalize w.alloc (.cells #[.int .u8 0, .int .u8 0, .int .u8 0, .int .u8 0] 67) = w0 at *
  generalize hq : w.heap.size = q at *
  have HQ := hide hq
  clear hq
  have hfl : ∀ l : List Nat, (l.flatMap four).length = 4 * l.length := fun l => by
    induction l with
    | nil => rfl
    | cons a r ih => simp only [List.flatMap_cons, List.length_append, ih, four_len, List.length_cons]; omega
  have HFL := hide hfl
  clear hfl
  go_loopw [0, 10] (fun v i wr => ∃ (k g1 c1 m1 : Nat) (y0 y1 y2 y3 : Value), v = .slice (some ⟨g1, 0, none⟩) m1 c1 ∧ i = .int .i64 (k : Nat) ∧ k ≤ n ∧ m1 = m + 4 * k ∧ m1 ≤ c1 ∧ wr.heap[q]? = some (.cells #[y0, y1, y2, y3] 67 (0, 0)) ∧ RowB wr g1 c1 (bs ++ (l.take k).flatMap four) ∧ (g1 = g ∨ q < g1) ∧ Turns (fun k => k = g) w wr) (fun _ i _ => n - (intOf i).toNat)
  case atStart => exact ⟨0, g, c, m, _, _, _, _, rfl, rfl, by omega, by omega, hmc, HNEW.out, by rw [List.take_zero, List.flatMap_nil, List.append_nil]; exact HR.out, .inl rfl, Turns.of_below (by rw [HQ.out]; exact B0.out) _⟩
  case round =>
    obtain ⟨k, g1, c1, m1, y0, y1, y2, y3, rfl, rfl, hk, hm1, hmc1, hh, hrow1, hg1, ht⟩ := hrel
    have HH := hide hh
    have HR1 := hide hrow1
    have HT := hide ht
    have HM1 := hide hm1
    have hqlt : q < wr.heap.size := lt_of_heap hh
    have hbd : m1 ≤ 700000 := by omega
    have hg1q : ¬ g1 = q := by omega
    have hbl : m1 = (bs ++ (l.take k).flatMap four).length := by
      rw [List.length_append, HFL.out, List.length_take, ← HM.out, ← HNL.out]
      omega
    have HBL := hide hbl
    clear hh hrow1 ht hm1 hbl
    by_cases hkn : k < n
    · have hkl : k < l.length := by have := HNL.out; omega
      obtain ⟨_, _, e, hx⟩ := HI.out
      cases e
      obtain ⟨b, off, rfl, hc⟩ := hx k l[k] (List.getElem?_eq_getElem hkl)
      have hbg : b ≠ g := HG.out ⟨b, off, none⟩ rfl
      have hc' := HT.out.cell hc hbg
      have hlk := HLL.out l[k] (List.getElem_mem hkl)
      have HTK := hide (List.take_succ_eq_append_getElem hkl)
      generalize l[k] = y at *
      have i1 : (k : Int) < (l.length : Int) := by omega
      have i0 : (0 : Int) ≤ (k : Int) := by omega
      clear hx hc
      go_wp2_with fail
      refine (put_any q y hlk _ y0 y1 y2 y3 HH.out).mono ?_
      rintro e w2 ⟨⟨v, rfl⟩, hh2, t2⟩
      obtain ⟨g2, c2, w3, hr, hc2, hrow2, hb2⟩ := append_grow w2 g1 m1 c1 _ HBL.out (.slice (some ⟨q, 0, none⟩) 4 4) (four y) 4 rfl (bytes4 hh2) hmc1 (RowC.turns HR1.out t2 hg1q) (by omega)
      have hh3 := hb2.turns.heap hh2 (fun e => hg1q e.symm)
      have HA := hide hr
      have HR2 := hide hrow2
      have HH3 := hide hh3
      have HB2 := hide hb2
      have T2 := hide t2
      clear hr hrow2 hh3 hb2 t2
      go_wp2_with (at_builtin; refine wpList_append_run rfl (.tmp 16) (.tmp 17) 22 rfl (.slice (some ⟨g1, 0, none⟩) m1 c1) (.slice (some ⟨q, 0, none⟩) 4 4) rfl rfl _ _ (HA.out _) ?_)
      go_roundw
      case rel =>
        refine ⟨k + 1, g2, c2, m1 + 4, _, _, _, _, rfl, by go_num, by omega, by rw [HM1.out]; omega, hc2, HH3.out, ?_, ?_, ?_⟩
        · rw [HTK.out, List.flatMap_append, ← List.append_assoc]
          simpa using HR2.out
        · have h1 := T2.out.size
          rcases HB2.out.own with e | e
          · rw [e]; exact hg1
          · exact .inr (by omega)
        · have h1 := HT.out.size
          have h2 := HQ.out
          refine (HT.out.andThen T2.out fun j hj e => ?_).andThen HB2.out.turns fun j hj e => ?_
          · omega
          · omega
      case measure => simp [intOf]; omega
    · obtain rfl : k = n := by omega
      have i1 : ¬ (k : Int) < (k : Int) := by omega
      have HTL := hide (show l.take k = l from List.take_of_length_le (by rw [HNL.out]; exact Nat.le_refl _))
      go_wp2_with fail
      refine (put_any q k (by omega) _ y0 y1 y2 y3 HH.out).mono ?_
      rintro e w2 ⟨⟨v, rfl⟩, hh2, t2⟩
      obtain ⟨g2, c2, w3, hr, hc2, hrow2, hb2⟩ := append_grow w2 g1 m1 c1 _ HBL.out (.slice (some ⟨q, 0, none⟩) 4 4) (four k) 4 rfl (bytes4 hh2) hmc1 (RowC.turns HR1.out t2 hg1q) (by omega)
      have HA := hide hr
      have HR2 := hide hrow2
      have HB2 := hide hb2
      have T2 := hide t2
      clear hr hrow2 hb2 t2
      go_wp2_with (at_builtin; refine wpList_append_run rfl (.tmp 23) (.tmp 24) 22 rfl (.slice (some ⟨g1, 0, none⟩) m1 c1) (.slice (some ⟨q, 0, none⟩) 4 4) rfl rfl _ _ (HA.out _) ?_)
      go_ret
      refine ⟨g2, c2, ?_, ?_, ?_, ?_, ?_⟩
      · rw [← HNL.out, ← HM1.out]; rfl
      · rw [← HNL.out, ← HM1.out]; exact hc2
      · have h9 := HR2.out
        rw [HTL.out, List.append_assoc] at h9
        rw [← HNL.out]
        exact h9
      · have h1 := T2.out.size
        have h2 := HQ.out
        have h3 := HT.out.size
        rcases HB2.out.own with e | e
        · rcases hg1 with e' | e'
          · exact .inl (e.trans e')
          · exact .inr (by omega)
        · exact .inr (by omega)
      · have h1 := HT.out.size
        have h2 := HQ.out
        refine (HT.out.andThen T2.out fun j hj e => ?_).andThen HB2.out.turns fun j hj e => ?_
        · omega
        · omega
end Go.Proofs.Ytolaaodhnhdadaa
