/-
  Parse.
-/
import Derived.Test.YtpdlbepkkfoadaaRw
import Derived.Test.YtpdlbepkkfoadaaWr
namespace Go.Proofs.Ytpdlbepkkfoadaa
open Go.RowKit
set_option maxRecDepth 100000
set_option maxHeartbeats 4000000
theorem clone_lt (a : Option Addr) (n c : Nat) (bs : List (BitVec 8)) (w : World) (h : Bytes w (.slice a n c) bs) (hn : n ≤ 1000000) :
    Calls Try.prog 34 #[.slice a n c] w fun e w' => ∃ a' c', e = .returned (.slice a' n c') ∧ Bytes w' (.slice a' n c') bs ∧ n ≤ c' ∧ (∀ x, a' = some x → w.heap.size ≤ x.block ∧ x.block < w'.heap.size) ∧ (a' = none → c' = 0) ∧ Below w.heap.size w w' := by
  have hl := h.len
  cases a with
  | none =>
    obtain rfl : n = 0 := by
      rcases Nat.eq_zero_or_pos n with h0 | h0
      · exact h0
      · obtain ⟨_, _, e⟩ := h.addr h0; cases e
    obtain rfl : bs = [] := List.eq_nil_of_length_eq_zero hl.symm
    clear h hl
    have he : (binOp .eql 22 (.slice none 0 c) (.slice none 0 0)).run Try.prog w = .ok (.bool true) w := nil_eql none 0 c w
    go_enter Try.func34, Try.ntmps34
    go_wp2_with fail
    go_ret
    exact ⟨none, 0, rfl, Bytes.empty _, Nat.le_refl _, fun x e => (by cases e), fun _ => rfl, Below.refl _ _⟩
  | some ad =>
    have hb : Below w.heap.size w (w.alloc (.cells #[] 5)) := (Below.refl _ _).alloc (Nat.le_refl _) _
    obtain ⟨g, c2, w2, hr, hg, hrow, hb2, hc, _⟩ := append_bytes2 (w.alloc (.cells #[] 5)) w.heap.size (some ⟨w.heap.size, 0, none⟩) 0 0 [] rfl (.slice (some ad) n c) bs n hl (h.below hb) (by simp)
      (.inr ⟨_, rfl, Nat.le_refl _, Nat.le_refl _, #[], heap_alloc_new w _, Nat.le_refl _, fun k hk => by simp [cellsOf] at hk⟩) (by omega)
    rw [Nat.zero_add] at hr hc
    rw [List.nil_append] at hrow
    have HR := hide hr
    have HW := hide (RowB.bytes (c' := c2) hrow hl)
    have hgl : g < w2.heap.size := by obtain ⟨cs, h1, _⟩ := hrow; exact lt_of_heap h1
    have HB := hide (hb.trans hb2)
    clear hr hrow hb hb2 h hl
    have he : (binOp .eql 22 (.slice (some ad) n c) (.slice none 0 0)).run Try.prog w = .ok (.bool false) w := nil_eql (some ad) n c w
    go_enter Try.func34, Try.ntmps34
    go_wp2_with (at_builtin; refine wpList_append_run rfl _ _ 22 rfl (.slice (some ⟨w.heap.size, 0, none⟩) 0 0) (.slice (some ad) n c) rfl rfl _ _ (HR.out _) ?_)
    go_ret
    exact ⟨_, c2, rfl, HW.out, hc, fun x e => by cases e; exact ⟨hg, hgl⟩, fun e => (by cases e), HB.out⟩
theorem new_any (a : Option Addr) (n c : Nat) (p : List (BitVec 8)) (w : World) (h : Bytes w (.slice a n c) p) (hn : n ≤ 1000000) :
    Calls Try.prog 27 #[.slice a n c] w fun e w' => ∃ r, e = .returned (.pointer (some ⟨r, 0, none⟩)) ∧ w.heap.size ≤ r ∧ Rdr w' r p 0 0 ∧ Below w.heap.size w w' := by
  have hl := h.len
  have H := hide h
  have HL := hide hl
  clear h hl
  go_enter Try.func27, Try.ntmps27
  go_wp2_with fail
  refine (clone_lt a n c p _ H.out hn).mono ?_
  rintro e w1 ⟨a1, c1, rfl, hb1, hc1, hk1, hn1, b1⟩
  have HB1 := hide hb1
  have HK1 := hide hk1
  have B1 := hide b1
  clear hb1 hk1 b1
  go_wp2_with fail
  go_ret
  have b2 := (Below.refl w1.heap.size w1).alloc (Nat.le_refl _) (.cells #[.slice a1 n c1, .int .i64 0, .bool true, .int .i64 0] 74)
  have n2 := heap_alloc_new w1 (.cells #[.slice a1 n c1, .int .i64 0, .bool true, .int .i64 0] 74)
  refine ⟨w1.heap.size, rfl, B1.out.size, ⟨a1, c1, ?_, ?_, by rw [← HL.out]; exact hc1, ?_, fun x e => (HK1.out x e).2⟩, B1.out.trans (b2.mono B1.out.size)⟩
  · rw [← HL.out]; exact n2
  · rw [← HL.out]; exact HB1.out.below b2
  · exact hn1
theorem number_err (r : Nat) (p : List (BitVec 8)) (i : Nat) (z : Int) (hz : z ≠ 0) (w : World) (h : Rdr w r p i z) :
    Calls Try.prog 28 #[.pointer (some ⟨r, 0, none⟩)] w fun e w' => e = .returned (.int .u64 0) ∧ ∃ m, w' = w.drewN m := by
  have H := hide h
  clear h
  go_enter Try.func28, Try.ntmps28
  go_wp2_with fail
  refine (ready_any r p i z w H.out).mono ?_
  rintro e w1 ⟨rfl, m, rfl⟩
  rw [decide_eq_false hz]
  go_wp2_with fail
  go_ret
  exact ⟨rfl, m, rfl⟩
/-- The two numbers that a batch's bytes open with. -/
def heads (p : List (BitVec 8)) : Nat × Nat × List (BitVec 8) × Int :=
  match rdShort p with
  | .error z => (0, 0, p, z)
  | .ok (s, k) =>
    match rdShort (p.drop k) with
    | .error z => (s, 0, p.drop k, z)
    | .ok (t, k') => (s, t, (p.drop k).drop k', 0)
/-- What is answered of the writes that were read. -/
def finish (s : Nat) (o : Except Int (List Wr × List (BitVec 8))) : Except Int (Nat × List Wr) :=
  match o with
  | .error e => .error e
  | .ok (xs, r) => if r ≠ [] then .error 4 else if chk s xs ≠ 0 then .error (chk s xs) else .ok (s, xs)
/-- Writes ahead of those that are read. -/
def pre (acc : List Wr) (o : Except Int (List Wr × List (BitVec 8))) : Except Int (List Wr × List (BitVec 8)) :=
  match o with
  | .error e => .error e
  | .ok (ys, r) => .ok (acc ++ ys, r)
theorem rdPiece_len {l q r : List (BitVec 8)} (h : rdPiece l = .ok (q, r)) : r.length < l.length := by
  unfold rdPiece at h
  cases hq : rdShort l with
  | error z => rw [hq] at h; cases h
  | ok mn =>
    obtain ⟨m, n⟩ := mn
    have := rdShort_le hq
    rw [hq] at h
    simp only at h
    split at h
    · cases h
    · split at h
      · cases h
      · simp only [Except.ok.injEq, Prod.mk.injEq] at h
        rw [← h.2, List.length_drop, List.length_drop]
        omega
theorem rdWrite_len {l r : List (BitVec 8)} {x : Wr} (h : rdWrite l = .ok (x, r)) : r.length < l.length := by
  cases l with
  | nil => cases h
  | cons b t =>
    simp only [rdWrite] at h
    split at h
    · cases h
    · cases hq : rdPiece t with
      | error z => rw [hq] at h; cases h
      | ok kr =>
        obtain ⟨key, r1⟩ := kr
        have h1 := rdPiece_len hq
        rw [hq] at h
        simp only at h
        split at h
        · cases hq2 : rdPiece r1 with
          | error z => rw [hq2] at h; cases h
          | ok vr =>
            obtain ⟨val, r2⟩ := vr
            have h2 := rdPiece_len hq2
            rw [hq2] at h
            simp only [Except.ok.injEq, Prod.mk.injEq] at h
            rw [← h.2, List.length_cons]
            omega
        · simp only [Except.ok.injEq, Prod.mk.injEq] at h
          rw [← h.2, List.length_cons]
          omega
theorem pre_step {acc : List Wr} {k : Nat} {rest r' : List (BitVec 8)} {x : Wr} (h : rdWrite rest = .ok (x, r')) : pre acc (rdWrites (k + 1) rest) = pre (acc ++ [x]) (rdWrites k r') := by
  rw [rdWrites, h]
  simp only
  cases rdWrites k r' with
  | error z => rfl
  | ok yr => simp [pre]
theorem pre_err {acc : List Wr} {k : Nat} {rest : List (BitVec 8)} {z : Int} (h : rdWrite rest = .error z) : pre acc (rdWrites (k + 1) rest) = .error z := by
  rw [rdWrites, h]
  rfl
/-- What Parse answers. -/
def ParseOk (e : Ending) (w' : World) : Except Int (Nat × List Wr) → Prop
  | .error z => e = .returned (.tuple #[.agg #[.int .u64 0, .slice none 0 0], .int .i64 z])
  | .ok (s, xs) => ∃ a' c', e = .returned (.tuple #[.agg #[.int .u64 s, .slice a' xs.length c'], .int .i64 0]) ∧ Wrs w' (.slice a' xs.length c') xs
theorem parse_any (a : Option Addr) (n c : Nat) (p : List (BitVec 8)) (w : World) (h : Bytes w (.slice a n c) p) (hn : n ≤ 1000000)
    (hsm : ∀ xs, rdWrites (heads p).2.1 (heads p).2.2.1 = .ok (xs, []) → Smol xs) :
    Calls Try.prog 13 #[.slice a n c] w fun e w' => ParseOk e w' (parseB p) ∧ Below w.heap.size w w' := by
  have hl := h.len
  have b0 := (Below.refl w.heap.size w).alloc (Nat.le_refl _) (.cells #[.int .u64 0, .slice none 0 0] 31)
  have n0 := heap_alloc_new w (.cells #[.int .u64 0, .slice none 0 0] 31)
  have H := hide (h.below b0)
  have HL := hide hl
  have HS := hide hsm
  have N0 := hide n0
  have B0 := hide b0
  clear h hl hsm b0 n0
  go_enter Try.func13, Try.ntmps13
  go_wp2_with fail
  generalize w.alloc (.cells #[.int .u64 0, .slice none 0 0] 31) = w0 at *
  refine (new_any a n c p w0 H.out hn).mono ?_
  rintro e w1 ⟨r, rfl, hr, h1, b1⟩
  have N1 := hide (heap_keep b1 N0.out)
  have B1 := hide (B0.out.trans (b1.mono B0.out.size))
  have H1 := hide h1
  have hr0 : w.heap.size < r := Nat.lt_of_lt_of_le (lt_of_heap N0.out) hr
  clear h1 b1 H N0 B0 hr
  go_wp2_with fail
  have hpl : p.length ≤ 1000000 := by rw [← HL.out]; exact hn
  refine (number_ok r p 0 w1 H1.out hpl (Nat.zero_le _)).mono ?_
  rintro e w2 ⟨hnum, t2⟩
  rw [List.drop_zero] at hnum
  have N2 := hide (t2.heap N1.out (by omega))
  have B2 := hide (B1.out.trans (t2.below (B := w.heap.size) B1.out.size (fun k e => by omega)))
  have hrl : r < w2.heap.size := by
    obtain ⟨_, _, hh, _⟩ := H1.out
    exact Nat.lt_of_lt_of_le (lt_of_heap hh) t2.size
  clear t2 N1 B1 H1
  cases hq : rdShort p with
  | error z =>
    rw [hq] at hnum
    obtain ⟨rfl, h2⟩ := hnum
    have hz : z ≠ 0 := by rcases rdShort_err hq with rfl | rfl <;> decide
    have H2 := hide h2
    have hres : parseB p = .error z := by unfold parseB; rw [hq]
    have HRES := hide hres
    clear h2 hres hq
    go_wp2_with fail
    refine (number_err r p 0 z hz w2 H2.out).mono ?_
    rintro e w3 ⟨rfl, m3, hw3⟩
    have H3 := hide (show Rdr w3 r p 0 z by rw [hw3]; exact H2.out.drewN m3)
    have N3 := hide (heap_drew hw3 N2.out)
    have B3 := hide (show Below w.heap.size w w3 by rw [hw3]; exact belowN B2.out m3)
    clear hw3 N2 B2 H2
    go_wp2_with fail
    refine wp_loop_once ?_
    go_wp2_with fail
    refine (end_any r p 0 z w3 H3.out hpl (Nat.zero_le _)).mono ?_
    rintro e wE ⟨rfl, mE, hwE⟩
    have NE := hide (heap_drew hwE N3.out)
    have BE := hide (show Below w.heap.size w wE by rw [hwE]; exact belowN B3.out mE)
    clear hwE
    rw [show endN z 0 p.length = z from if_pos hz]
    have hne : (z != 0) = true := by simpa using hz
    go_wp2_with (refine wpList_store_row rfl 31 _ _ rfl _ _ rfl rfl _ _ NE.out ?_ ?_ ?_ ?_; (exact info31); (simp only [List.size_toArray, List.length_cons, List.length_nil]); (simp [Value.oneCell']))
    refine bodyPost_ret (v := .tuple #[.agg #[.int .u64 0, .slice none 0 0], .int .i64 z]) ?_ rfl ?_
    · exact results_cell_tmp Try.results13 _ _ _ _ _ _ _ _ rfl rfl (setRow_heap _ _ _ _ _ _ NE.out) Try.underlying31 rfl info31
    · exact ⟨by rw [HRES.out]; exact rfl, BE.out.trans ⟨rfl, rfl, rfl, by simp, fun k hk => setRow_other _ _ _ _ (by omega)⟩⟩
  | ok sk =>
    obtain ⟨s, k⟩ := sk
    rw [hq] at hnum
    obtain ⟨rfl, h2⟩ := hnum
    rw [Nat.zero_add] at h2
    have hk := rdShort_le hq
    have hsb := rdShort_bound hq
    have H2 := hide h2
    have HQ := hide hq
    clear h2 hq
    go_wp2_with fail
    refine (number_ok r p k w2 H2.out hpl hk.2).mono ?_
    rintro e w3 ⟨hnum, t3⟩
    have N3 := hide (t3.heap N2.out (by omega))
    have B3 := hide (B2.out.trans (t3.below (B := w.heap.size) B2.out.size (fun k e => by omega)))
    have hrl3 : r < w3.heap.size := Nat.lt_of_lt_of_le hrl t3.size
    clear t3 N2 B2 H2
    cases hq2 : rdShort (p.drop k) with
    | error z =>
      rw [hq2] at hnum
      obtain ⟨rfl, h3⟩ := hnum
      have hz : z ≠ 0 := by rcases rdShort_err hq2 with rfl | rfl <;> decide
      have H3 := hide h3
      have hres : parseB p = .error z := by unfold parseB; rw [HQ.out]; simp only; rw [hq2]
      have HRES := hide hres
      clear h3 hres hq2
      go_wp2_with fail
      refine wp_loop_once ?_
      go_wp2_with fail
      refine (end_any r p k z w3 H3.out hpl hk.2).mono ?_
      rintro e wE ⟨rfl, mE, hwE⟩
      have NE := hide (heap_drew hwE N3.out)
      have BE := hide (show Below w.heap.size w wE by rw [hwE]; exact belowN B3.out mE)
      clear hwE
      rw [show endN z k p.length = z from if_pos hz]
      have hne : (z != 0) = true := by simpa using hz
      go_wp2_with (refine wpList_store_row rfl 31 _ _ rfl _ _ rfl rfl _ _ NE.out ?_ ?_ ?_ ?_; (exact info31); (simp only [List.size_toArray, List.length_cons, List.length_nil]); (simp [Value.oneCell']))
      refine bodyPost_ret (v := .tuple #[.agg #[.int .u64 0, .slice none 0 0], .int .i64 z]) ?_ rfl ?_
      · exact results_cell_tmp Try.results13 _ _ _ _ _ _ _ _ rfl rfl (setRow_heap _ _ _ _ _ _ NE.out) Try.underlying31 rfl info31
      · exact ⟨by rw [HRES.out]; exact rfl, BE.out.trans ⟨rfl, rfl, rfl, by simp, fun k hk => setRow_other _ _ _ _ (by omega)⟩⟩
    | ok tk =>
      obtain ⟨t, k'⟩ := tk
      rw [hq2] at hnum
      obtain ⟨rfl, h3⟩ := hnum
      have hk' := rdShort_le hq2
      have htb := rdShort_bound hq2
      rw [List.length_drop] at hk'
      have H3 := hide (show RdrL w3 r p ((p.drop k).drop k') 0 from ⟨k + k', by omega, by rw [List.drop_drop], h3⟩)
      have HQ2 := hide hq2
      have hheads : heads p = (s, t, (p.drop k).drop k', 0) := by unfold heads; rw [HQ.out]; simp only; rw [hq2]
      have HS2 : Hid (∀ xs, rdWrites t ((p.drop k).drop k') = .ok (xs, []) → Smol xs) := hide (by have := HS.out; rw [hheads] at this; exact this)
      have hparse : parseB p = finish s (rdWrites t ((p.drop k).drop k')) := by
        unfold parseB finish; rw [HQ.out]; simp only; rw [hq2]; rfl
      have HP := hide hparse
      generalize (p.drop k).drop k' = rest0 at *
      clear h3 hq2 hheads hparse HS hk hk'
      go_wp2_with fail
      go_loopw [7, 20] (fun v i wr => ∃ (j m cc : Nat) (base : Option Addr) (l : List WA) (rest : List (BitVec 8)), i = .int .u64 (j : Nat) ∧ v = .slice base m cc ∧ j ≤ t ∧ WRow wr r base m cc l ∧ RdrL wr r p rest 0 ∧ rdWrites t rest0 = pre (l.map WA.x) (rdWrites (t - j) rest) ∧ m + rest.length ≤ p.length ∧ wr.heap[w.heap.size]? = some (.cells #[.int .u64 0, .slice none 0 0] 31 (0, 0)) ∧ r < wr.heap.size ∧ Below w.heap.size w wr) (fun _ i _ => t - (intOf i).toNat)
      case atStart => exact ⟨0, 0, 0, none, [], rest0, rfl, rfl, Nat.zero_le _, ⟨rfl, .inl ⟨rfl, rfl, rfl⟩, fun a ha => by cases ha⟩, H3.out, by cases rdWrites t rest0 <;> rfl, by obtain ⟨i0, _, e, _⟩ := H3.out; rw [← e, List.length_drop]; omega, N3.out, hrl3, B3.out⟩
      case round =>
        obtain ⟨j, m, cc, base, l, rest, rfl, rfl, hj, hrow, hrd, hw, hm, hN, hrw, hB⟩ := hrel
        have ROW := hide hrow
        have RD := hide hrd
        have HW := hide hw
        have NN := hide hN
        have BB := hide hB
        clear hrow hrd hw hN hB H3 N3 B3
        by_cases hjt : j < t
        · have j1 : (j : Int) < (t : Int) := by omega
          go_wp2_with fail
          refine (readWrite_any r p rest wr RD.out hpl).mono ?_
          rintro e w4 ⟨hwo, t4⟩
          have ROW4 := hide (ROW.out.turns t4 (fun k e => Nat.le_of_eq e))
          have N4 := hide (t4.heap NN.out (by omega))
          have B4 := hide (BB.out.trans (t4.below (B := w.heap.size) BB.out.size (fun k e => by omega)))
          have hs4 : wr.heap.size ≤ w4.heap.size := t4.size
          have hgb : ∀ g, base = some ⟨g, 0, none⟩ → g < wr.heap.size := fun g e => by
            rcases ROW.out.row with ⟨e1, _⟩ | ⟨g1, e1, _, _, cs, h1, _⟩
            · rw [e1] at e; cases e
            · rw [e1] at e; cases e; exact lt_of_heap h1
          have HGB := hide hgb
          clear t4 ROW NN BB hgb
          cases hq3 : rdWrite rest with
          | error z =>
            rw [hq3] at hwo
            obtain ⟨hz, k0, ka, kn, kc, va, vn, vc, rfl⟩ := hwo
            have hres : parseB p = .error z := by
              rw [HP.out, HW.out, show t - j = (t - j - 1) + 1 by omega, pre_err hq3]; rfl
            have HRES := hide hres
            have hne : (z != 0) = true := by simpa using hz
            have N5 := hide (heap_keep ((Below.refl w4.heap.size w4).alloc (Nat.le_refl _) (.cells #[.int .i64 k0, .slice ka kn kc, .slice va vn vc] 24)) N4.out)
            have B5 := hide (B4.out.alloc B4.out.size (.cells #[.int .i64 k0, .slice ka kn kc, .slice va vn vc] 24))
            clear hres hq3
            go_wp2_with (refine wpList_store_row rfl 31 _ _ rfl _ _ rfl rfl _ _ N5.out ?_ ?_ ?_ ?_; (exact info31); (simp only [List.size_toArray, List.length_cons, List.length_nil]); (simp [Value.oneCell']))
            refine bodyPost_ret (v := .tuple #[.agg #[.int .u64 0, .slice none 0 0], .int .i64 z]) ?_ rfl ?_
            · exact results_cell_tmp Try.results13 _ _ _ _ _ _ _ _ rfl rfl (setRow_heap _ _ _ _ _ _ N5.out) Try.underlying31 rfl info31
            · exact ⟨by rw [HRES.out]; exact rfl, B5.out.trans ⟨rfl, rfl, rfl, by simp, fun k hk => setRow_other _ _ _ _ (by omega)⟩⟩
          | ok xr =>
            obtain ⟨x, r1⟩ := xr
            rw [hq3] at hwo
            obtain ⟨ka, kc, va, vc, rfl, hk1, hv1, hkb, hvb, hrd4⟩ := hwo
            have RD4 := hide hrd4
            have hlen := rdWrite_len hq3
            have hstep : rdWrites t rest0 = pre ((l ++ [(⟨x, ka, kc, va, vc⟩ : WA)]).map WA.x) (rdWrites (t - (j + 1)) r1) := by
              rw [HW.out, show t - j = (t - (j + 1)) + 1 by omega, pre_step hq3, List.map_append]; rfl
            have HSTEP := hide hstep
            clear hrd4 hq3 hstep
            have hok : WA.ok w4 (used r base) ⟨x, ka, kc, va, vc⟩ := ⟨hk1, hv1, fun q e _ s => by
                have := hkb q e
                rcases s with s | s
                · omega
                · have := HGB.out _ s; omega, fun q e _ s => by
                have := hvb q e
                rcases s with s | s
                · omega
                · have := HGB.out _ s; omega⟩
            obtain ⟨kd, key, val⟩ := x
            have b5 := (Below.refl w4.heap.size w4).alloc (Nat.le_refl _) (.cells #[.int .i64 kd, .slice ka key.length kc, .slice va val.length vc] 24)
            have x5 := heap_alloc_new w4 (.cells #[.int .i64 kd, .slice ka key.length kc, .slice va val.length vc] 24)
            obtain ⟨g6, c6, w6, hrun, hrow6, ht6⟩ := append_write (w4.alloc (.cells #[.int .i64 kd, .slice ka key.length kc, .slice va val.length vc] 24)) r base m cc l ⟨(kd, key, val), ka, kc, va, vc⟩ (ROW4.out.fresh b5) (hok.turns (Turns.of_below b5 (fun _ => False)) (fun _ _ s => s.elim)) (by have := b5.size; omega) (by omega)
            have RUN := hide hrun
            have ROW6 := hide hrow6
            have X5 := hide x5
            have T6 := hide ht6
            have B5 := hide b5
            clear hrun hrow6 x5 hok hk1 hv1 ht6 b5
            generalize key.length = kl at *
            generalize val.length = vl at *
            generalize hw5 : w4.alloc (.cells #[.int .i64 kd, .slice ka kl kc, .slice va vl vc] 24) = w5 at *
            have c0 := cell_of_row w5 _ 0 _ 24 (0, 0) X5.out
            have c1 := cell_of_row w5 _ 1 _ 24 (0, 0) X5.out
            have c2 := cell_of_row w5 _ 2 _ 24 (0, 0) X5.out
            simp at c0 c1 c2
            go_wp2_with (at_builtin; refine wpList_append_run rfl (.tmp 31) (.tmp 33) 29 rfl (.slice base m cc) (.slice (some ⟨w5.heap.size, 0, none⟩) 1 1) rfl rfl _ _ (RUN.out _) ?_)
            go_roundw
            case rel =>
              have hrb : ∀ k, base = some ⟨k, 0, none⟩ → r < k := fun k e => by
                rcases ROW4.out.row with ⟨e1, _⟩ | ⟨g1, e1, hg1, _⟩
                · rw [e1] at e; cases e
                · rw [e1] at e; cases e; exact hg1
              obtain ⟨i4, hi4, hd4, hr4⟩ := RD4.out
              have hr5 : Rdr w5 r p i4 0 := Rdr.turns (S := fun _ => False) hr4 (Turns.of_below B5.out _) (fun x => x)
              have hs5 := B5.out.size
              have hb6 : Below w.heap.size w5 w6 := T6.out.below (by have := B4.out.size; omega) (fun k e => by have := hrb k e; omega)
              exact ⟨j + 1, m + 1, c6, some ⟨g6, 0, none⟩, _, r1, by go_num, rfl, by omega, ROW6.out, ⟨i4, hi4, hd4, hr5.keep T6.out hrb⟩, HSTEP.out, by omega, T6.out.heap (heap_keep B5.out N4.out) (fun e => by have := hrb _ e; omega), Nat.lt_of_lt_of_le (by omega) T6.out.size, (B4.out.trans (B5.out.mono B4.out.size)).trans hb6⟩
            case measure => simp [intOf]; omega
        · obtain rfl : j = t := by omega
          have hw0 : rdWrites j rest0 = .ok (l.map WA.x, rest) := by rw [HW.out, Nat.sub_self]; simp [rdWrites, pre]
          obtain ⟨i4, hi4, hd4, hr4⟩ := RD.out
          have HR4 := hide hr4
          have HW0 := hide hw0
          clear hr4 hw0
          go_wp2_with fail
          refine (end_any r p i4 0 wr HR4.out hpl hi4).mono ?_
          rintro e w4 ⟨rfl, m4, hw4⟩
          have ROW4 := hide (show WRow w4 r base m cc l by rw [hw4]; exact ROW.out.turns (turnsN (S := fun _ => False) wr m4) (fun _ x => x.elim))
          have N4 := hide (heap_drew hw4 NN.out)
          have B4 := hide (show Below w.heap.size w w4 by rw [hw4]; exact belowN BB.out m4)
          clear hw4 ROW NN BB
          by_cases hlt : i4 < p.length
          · rw [show endN 0 i4 p.length = 4 from by unfold endN; rw [if_neg (by simp), if_pos hlt]]
            have hres : parseB p = .error 4 := by
              rw [HP.out, HW0.out]
              unfold finish
              simp only
              rw [if_pos (by rw [← hd4]; intro e; have := congrArg List.length e; rw [List.length_drop] at this; simp at this; omega)]
            have HRES := hide hres
            clear hres
            go_wp2_with (refine wpList_store_row rfl 31 _ _ rfl _ _ rfl rfl _ _ N4.out ?_ ?_ ?_ ?_; (exact info31); (simp only [List.size_toArray, List.length_cons, List.length_nil]); (simp [Value.oneCell']))
            refine bodyPost_ret (v := .tuple #[.agg #[.int .u64 0, .slice none 0 0], .int .i64 4]) ?_ rfl ?_
            · exact results_cell_tmp Try.results13 _ _ _ _ _ _ _ _ rfl rfl (setRow_heap _ _ _ _ _ _ N4.out) Try.underlying31 rfl info31
            · exact ⟨by rw [HRES.out]; exact rfl, B4.out.trans ⟨rfl, rfl, rfl, by simp, fun k hk => setRow_other _ _ _ _ (by omega)⟩⟩
          · rw [show endN 0 i4 p.length = 0 from by unfold endN; rw [if_neg (by simp), if_neg hlt]]
            have hrest : rest = [] := by rw [← hd4]; exact List.drop_eq_nil_of_le (by omega)
            subst hrest
            have hsmol := HS2.out _ HW0.out
            have hres : parseB p = if chk s (l.map WA.x) ≠ 0 then .error (chk s (l.map WA.x)) else .ok (s, l.map WA.x) := by
              rw [HP.out, HW0.out]
              unfold finish
              simp only
              rw [if_neg (by simp)]
            have HRES := hide hres
            have HSM := hide hsmol
            clear hres hsmol
            go_wp2_with fail
            refine (batchOf_any s base m cc w4).mono ?_
            rintro e w5 ⟨rfl, b5⟩
            have b6 := (Below.refl w5.heap.size w5).alloc (Nat.le_refl _) (.cells #[.int .u64 s, .slice base m cc] 31)
            have x6 := heap_alloc_new w5 (.cells #[.int .u64 s, .slice base m cc] 31)
            have ROW6 := hide ((ROW4.out.fresh b5).fresh b6)
            have N6 := hide (heap_keep b6 (heap_keep b5 N4.out))
            have B6 := hide ((B4.out.trans (b5.mono B4.out.size)).trans (b6.mono (Nat.le_trans B4.out.size b5.size)))
            have X6 := hide x6
            have hX6 : w.heap.size < w5.heap.size := Nat.lt_of_lt_of_le (lt_of_heap N4.out) b5.size
            clear b5 b6 x6 ROW4 N4 B4
            go_wp2_with fail
            generalize w5.alloc (.cells #[.int .u64 s, .slice base m cc] 31) = w6 at *
            refine (check_any s hsb base m cc (l.map WA.x) w6 ROW6.out.wrs HSM.out).mono ?_
            rintro e w7 ⟨rfl, b7⟩
            have ROW7 := hide (ROW6.out.fresh b7)
            have N7 := hide (heap_keep b7 N6.out)
            have B7 := hide (B6.out.trans (b7.mono B6.out.size))
            have X7 := hide (heap_keep b7 X6.out)
            clear b7 ROW6 N6 B6 X6
            have hv := chk_vals s (l.map WA.x)
            generalize hcq : chk s (l.map WA.x) = cq at *
            have HCQ := hide hcq
            clear hcq
            by_cases hc0 : cq = 0
            · subst hc0
              have x0 := cell_of_row w7 _ 0 _ 31 (0, 0) X7.out
              have x1 := cell_of_row w7 _ 1 _ 31 (0, 0) X7.out
              simp at x0 x1
              go_wp2_with (refine wpList_store_row rfl 31 _ _ rfl _ _ rfl rfl _ _ N7.out ?_ ?_ ?_ ?_; (exact info31); (simp only [List.size_toArray, List.length_cons, List.length_nil]); (simp [Value.oneCell']))
              refine bodyPost_ret (v := .tuple #[.agg #[.int .u64 s, .slice base m cc], .int .i64 0]) ?_ rfl ?_
              · exact results_cell_tmp Try.results13 _ _ _ _ _ _ _ _ rfl rfl (setRow_heap _ _ _ _ _ _ N7.out) Try.underlying31 rfl info31
              · have tF : Turns (fun j => j = w.heap.size) w7 (w7.setRow w.heap.size #[.int .u64 s, .slice base m cc]) := ⟨rfl, rfl, rfl, by simp, fun k _ hk => setRow_other _ _ _ _ hk⟩
                refine ⟨?_, B7.out.trans (tF.below B7.out.size (fun k e => by omega))⟩
                rw [HRES.out, if_neg (by simp)]
                have hwf := (ROW7.out.turns tF (fun k e => by omega)).wrs
                have hml := ROW7.out.len
                exact ⟨base, cc, by rw [List.length_map, ← hml], by rw [List.length_map, ← hml]; exact hwf⟩
            · have hne : (cq != 0) = true := by simpa using hc0
              go_wp2_with (refine wpList_store_row rfl 31 _ _ rfl _ _ rfl rfl _ _ N7.out ?_ ?_ ?_ ?_; (exact info31); (simp only [List.size_toArray, List.length_cons, List.length_nil]); (simp [Value.oneCell']))
              refine bodyPost_ret (v := .tuple #[.agg #[.int .u64 0, .slice none 0 0], .int .i64 cq]) ?_ rfl ?_
              · exact results_cell_tmp Try.results13 _ _ _ _ _ _ _ _ rfl rfl (setRow_heap _ _ _ _ _ _ N7.out) Try.underlying31 rfl info31
              · exact ⟨by rw [HRES.out, if_pos hc0]; exact rfl, B7.out.trans ⟨rfl, rfl, rfl, by simp, fun k hk => setRow_other _ _ _ _ (by omega)⟩⟩
end Go.Proofs.Ytpdlbepkkfoadaa
