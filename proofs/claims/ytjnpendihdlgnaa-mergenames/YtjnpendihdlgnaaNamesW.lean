/-
  The chapter's examples: the whole of the law.
-/
import Derived.Test.YtjnpendihdlgnaaBt
namespace Go.Proofs.Ytjnpendihdlgnaa
open Go.RowKit
set_option maxRecDepth 100000
set_option maxHeartbeats 8000000
theorem conv22 (C : Array Value) (n c : Nat) (w : World) : (convert 22 22 (.slice (some ⟨w.heap.size, 0, none⟩) n c)).run Try.prog (w.alloc (.cells C 5)) = .ok (.slice (some ⟨w.heap.size, 0, none⟩) n c) (w.alloc (.cells C 5 (C.size, C.size + 1))) :=
  Lib.run_convert_bytes_const w 22 5 C n c Try.underlying22 Try.underlying5
def eD : Ent := ⟨[97#8], 2, 2, []⟩
theorem put_b1 (w : World) : Calls Try.prog 8 #[.string ⟨#[98]⟩, .int .u64 1, .string ⟨#[]⟩] w fun e w' => ∃ ka kc va vc, e = .returned (.agg #[.slice ka 1 kc, .int .u64 1, .int .i64 1, .slice va 0 vc]) ∧ Bytes w' (.slice ka 1 kc) [98#8] ∧ Bytes w' (.slice va 0 vc) [] ∧ 1 ≤ kc ∧ Below w.heap.size w w' := put_any ⟨#[98]⟩ ⟨#[]⟩ 1 w
theorem put_a1 (w : World) : Calls Try.prog 8 #[.string ⟨#[97]⟩, .int .u64 1, .string ⟨#[]⟩] w fun e w' => ∃ ka kc va vc, e = .returned (.agg #[.slice ka 1 kc, .int .u64 1, .int .i64 1, .slice va 0 vc]) ∧ Bytes w' (.slice ka 1 kc) [97#8] ∧ Bytes w' (.slice va 0 vc) [] ∧ 1 ≤ kc ∧ Below w.heap.size w w' := put_any ⟨#[97]⟩ ⟨#[]⟩ 1 w
def eB1 : Ent := ⟨[98#8], 1, 1, []⟩
def eA1 : Ent := ⟨[97#8], 1, 1, []⟩
/-- One row, merged, is the row. -/
theorem mg_one (a : Addr) (c : Nat) (R : List Tow) (h : R.Pairwise ltT) (hne : R ≠ []) : Mg (hds [⟨some a, c, R⟩]) R := by
  obtain ⟨y, r, rfl⟩ := List.exists_cons_of_ne_nil hne
  have hh : hds [⟨some a, c, y :: r⟩] = [⟨a.block, a.off, c, y :: r, 0⟩] := rfl
  rw [hh]
  refine ⟨h, fun x hx => ⟨_, List.mem_singleton.2 rfl, hx, fun h' hh' hno => absurd hno (by simp)⟩, fun h' hh' z hz => ⟨z, ?_, (cmpE_zero _ _).2 ⟨rfl, rfl⟩⟩⟩
  rw [List.mem_singleton.1 hh'] at hz
  exact hz
theorem good_one (a : Addr) (c : Nat) (R : List Tow) (hR : R.length ≤ 1000000) (hs : ∀ x, x ∈ R → x.e.key.length ≤ 1000000 ∧ x.e.val.length ≤ 1000000) : Good [⟨some a, c, R⟩] :=
  ⟨by simp, by simpa [sumR] using hR, fun x hx => hs x (by simpa [allOf] using hx), fun x hx e => by rw [List.mem_singleton.1 hx] at e; cases e⟩
theorem seen_ex (g g1 : Nat) (t1 t2 : Tow) (seq : Nat) (w : World) (h1 : t1.e = eD) (h2 : t2.e = eA1x) (hr : RowsIn w (some ⟨g, 0, none⟩) [⟨some ⟨g1, 0, none⟩, 2, [t1, t2]⟩]) :
    Calls Try.prog 9 #[.slice (some ⟨g, 0, none⟩) 1 1, .int .u64 (seq : Nat)] w fun e w' => ∃ a n c, e = .returned (.tuple #[.slice a n c, .int .i64 0]) ∧ n = (seenO seq none [eD, eA1x]).length ∧ Below w.heap.size w w' := by
  have hup : [t1, t2].Pairwise ltT := by
    refine List.pairwise_cons.2 ⟨fun z hz => ?_, by simp⟩
    rw [List.mem_singleton.1 hz]
    unfold ltT
    rw [h1, h2]
    decide
  have hord : eachOrd [⟨some ⟨g1, 0, none⟩, 2, [t1, t2]⟩] = true := by
    show (inOrd [t1.e, t2.e] && true) = true
    rw [h1, h2]; decide
  have hgood : Good [⟨some ⟨g1, 0, none⟩, 2, [t1, t2]⟩] := good_one _ _ _ (by simp) (fun x hx => by
    have : x = t1 ∨ x = t2 := by simpa using hx
    rcases this with rfl | rfl
    · rw [h1]; decide
    · rw [h2]; decide)
  refine (seen9_any (some ⟨g, 0, none⟩) 1 1 _ seq w hr rfl hgood).mono ?_
  rintro e w' ⟨v, R, rfl, hE, hS, hb, hB⟩
  obtain ⟨a, c, rfl⟩ := hE.len
  refine ⟨a, R.length, c, by rw [hord]; rfl, ?_, hb⟩
  rcases hB with ⟨_, xs, hx, he⟩ | ⟨e, _⟩
  · have hxs := Mg.uniq (hds_up hr (by simp) hord) hds_no hx (mg_one _ _ [t1, t2] hup (by simp))
    subst hxs
    have hf : [t1, t2].filter (rng [] []) = [t1, t2] := List.filter_eq_self.2 fun x hx => by
      have : x = t1 ∨ x = t2 := by simpa using hx
      unfold rng atOr
      rcases this with rfl | rfl
      · rw [h1]; decide
      · rw [h2]; decide
    rw [hf] at he
    have hl := congrArg List.length he
    rw [List.length_map, List.length_take] at hl
    simp only [List.map_cons, List.map_nil, h1, h2] at hl
    have := seenO_length seq [eD, eA1x] none
    simp only [List.length_cons, List.length_nil] at this
    omega
  · rw [hord] at e; cases e
theorem all_bad (g g1 : Nat) (t1 t2 : Tow) (w : World) (h1 : t1.e = eB1) (h2 : t2.e = eA1) (hr : RowsIn w (some ⟨g, 0, none⟩) [⟨some ⟨g1, 0, none⟩, 2, [t1, t2]⟩]) :
    Calls Try.prog 10 #[.slice (some ⟨g, 0, none⟩) 1 1] w fun e w' => ∃ v, e = .returned (.tuple #[v, .int .i64 2]) ∧ Below w.heap.size w w' := by
  have hord : eachOrd [⟨some ⟨g1, 0, none⟩, 2, [t1, t2]⟩] = false := by
    show (inOrd [t1.e, t2.e] && true) = false
    rw [h1, h2]; decide
  have hgood : Good [⟨some ⟨g1, 0, none⟩, 2, [t1, t2]⟩] := good_one _ _ _ (by simp) (fun x hx => by
    have : x = t1 ∨ x = t2 := by simpa using hx
    rcases this with rfl | rfl
    · rw [h1]; decide
    · rw [h2]; decide)
  refine (all_any (some ⟨g, 0, none⟩) 1 1 _ w hr rfl hgood.fine).mono ?_
  rintro e w' ⟨v, R, rfl, hE, hS, hb, hB⟩
  exact ⟨v, by rw [hord]; rfl, hb⟩
/-- Bytes in a new row. -/
theorem Bytes.new (w : World) (cs : Array Value) (t c : Nat) (fr : Nat × Nat) (bs : List (BitVec 8)) (h : cs = (bs.map fun b => Value.int .u8 (b.toNat : Int)).toArray) :
    Bytes (w.alloc (.cells cs t fr)) (.slice (some ⟨w.heap.size, 0, none⟩) bs.length c) bs :=
  ⟨_, c, rfl, fun k hk => ⟨w.heap.size, 0, rfl, by
    rw [Nat.zero_add, cell_of_row _ _ k cs t fr (heap_alloc_new w _), h]
    simp [hk]⟩⟩
theorem names_any (w : World) : Calls Try.prog 3 #[] w fun e w' => e = .returned (.bool true) ∧ Below w.heap.size w w' := by
  have hcv := conv22 #[.int .u8 97] 1 1 w
  have T0 := hide ((Turns.refl (fun _ => False) w).alloc (.cells #[.int .u8 97] 5 (1, 2)))
  have K0 := hide (Bytes.new w #[.int .u8 97] 5 1 (1, 2) [97#8] rfl)
  go_enter Try.func3, Try.ntmps3
  go_wp2_with fail
  generalize w.alloc (.cells #[.int .u8 97] 5 (1, 2)) = w0 at *
  generalize hgk : w.heap.size = gk at *
  have HGK := hide hgk
  clear hgk hcv
  refine (put_a1x w0).mono ?_
  rintro e w1 ⟨k1, kc1, v1, vc1, rfl, hk1, hv1, _, b1⟩
  have t1 := Turns.of_below b1 (fun _ => False)
  have na := heap_alloc_new w1 (.cells #[.slice (some ⟨gk, 0, none⟩) 1 1, .int .u64 2, .int .i64 2, .slice none 0 0, .slice k1 1 kc1, .int .u64 1, .int .i64 1, .slice v1 1 vc1] 25)
  obtain ⟨w2, hw2⟩ : ∃ w2, w2 = w1.alloc (.cells #[.slice (some ⟨gk, 0, none⟩) 1 1, .int .u64 2, .int .i64 2, .slice none 0 0, .slice k1 1 kc1, .int .u64 1, .int .i64 1, .slice v1 1 vc1] 25) := ⟨_, rfl⟩
  have ta : Turns (fun _ => False) w1 w2 := by rw [hw2]; exact (Turns.refl _ _).alloc _
  rw [← hw2] at na
  have tb : Turns (fun _ => False) w2 (w2.alloc (.cells #[.slice (some ⟨w1.heap.size, 0, none⟩) 2 2] 27)) := (Turns.refl _ _).alloc _
  have nb := heap_alloc_new w2 (.cells #[.slice (some ⟨w1.heap.size, 0, none⟩) 2 2] 27)
  have tab := ta.trans tb
  have hE : Ents (w2.alloc (.cells #[.slice (some ⟨w1.heap.size, 0, none⟩) 2 2] 27)) (some ⟨w1.heap.size, 0, none⟩) [⟨some ⟨gk, 0, none⟩, 1, none, 0, eD⟩, ⟨k1, kc1, v1, vc1, eA1x⟩] := ents_two (tb.heap na (fun x => x)) (K0.out.quiet (t1.trans tab)) (Bytes.empty _) (hk1.quiet tab) (hv1.quiet tab)
  have hsz2 : w2.heap.size = w1.heap.size + 1 := by rw [hw2]; simp
  have RI := hide (show RowsIn (w2.alloc (.cells #[.slice (some ⟨w1.heap.size, 0, none⟩) 2 2] 27)) (some ⟨w1.heap.size + 1, 0, none⟩) [⟨some ⟨w1.heap.size, 0, none⟩, 2, [⟨some ⟨gk, 0, none⟩, 1, none, 0, eD⟩, ⟨k1, kc1, v1, vc1, eA1x⟩]⟩] by
    have := rows_one (x := ⟨some ⟨w1.heap.size, 0, none⟩, 2, [⟨some ⟨gk, 0, none⟩, 1, none, 0, eD⟩, ⟨k1, kc1, v1, vc1, eA1x⟩]⟩) nb ⟨hE, Nat.le_refl _, by simp⟩
    rw [hsz2] at this
    exact this)
  have T3 := hide ((T0.out.trans t1).trans tab)
  have HW2 := hide hw2
  clear b1 t1 ta na tb nb tab hE hk1 hv1 hw2 hsz2 T0 K0
  go_wp2_with fail
  rw [← HW2.out]
  generalize w2.alloc (.cells #[.slice (some ⟨w1.heap.size, 0, none⟩) 2 2] 27) = w3 at *
  clear HW2
  generalize w1.heap.size = g1 at *
  refine (seen_ex (g1 + 1) g1 _ _ 2 w3 rfl rfl RI.out).mono ?_
  rintro e w4 ⟨a4, n4, c4, rfl, hn4, b4⟩
  obtain rfl : n4 = 0 := by rw [hn4]; decide
  have t4 := Turns.of_below b4 (fun _ => False)
  have RI4 := hide (RI.out.quiet t4)
  have T4 := hide (T3.out.trans t4)
  clear b4 t4 RI T3 hn4
  go_wp2_with fail
  refine (seen_ex (g1 + 1) g1 _ _ 1 w4 rfl rfl RI4.out).mono ?_
  rintro e w5 ⟨a5, n5, c5, rfl, hn5, b5⟩
  obtain rfl : n5 = 1 := by rw [hn5]; decide
  have T5 := hide (T4.out.trans (Turns.of_below b5 (fun _ => False)))
  clear b5 RI4 T4 hn5
  go_wp2_with fail
  refine (put_b1 w5).mono ?_
  rintro e w6 ⟨k6, kc6, v6, vc6, rfl, hk6, hv6, _, b6⟩
  have K6 := hide hk6
  have V6 := hide hv6
  have T6 := hide (T5.out.trans (Turns.of_below b6 (fun _ => False)))
  clear hk6 hv6 b6 T5
  go_wp2_with fail
  refine (put_a1 w6).mono ?_
  rintro e w7 ⟨k7, kc7, v7, vc7, rfl, hk7, hv7, _, b7⟩
  have t7 := Turns.of_below b7 (fun _ => False)
  have na := heap_alloc_new w7 (.cells #[.slice k6 1 kc6, .int .u64 1, .int .i64 1, .slice v6 0 vc6, .slice k7 1 kc7, .int .u64 1, .int .i64 1, .slice v7 0 vc7] 25)
  obtain ⟨w8, hw8⟩ : ∃ w8, w8 = w7.alloc (.cells #[.slice k6 1 kc6, .int .u64 1, .int .i64 1, .slice v6 0 vc6, .slice k7 1 kc7, .int .u64 1, .int .i64 1, .slice v7 0 vc7] 25) := ⟨_, rfl⟩
  have ta : Turns (fun _ => False) w7 w8 := by rw [hw8]; exact (Turns.refl _ _).alloc _
  rw [← hw8] at na
  have tb : Turns (fun _ => False) w8 (w8.alloc (.cells #[.slice (some ⟨w7.heap.size, 0, none⟩) 2 2] 27)) := (Turns.refl _ _).alloc _
  have nb := heap_alloc_new w8 (.cells #[.slice (some ⟨w7.heap.size, 0, none⟩) 2 2] 27)
  have tab := ta.trans tb
  have hE : Ents (w8.alloc (.cells #[.slice (some ⟨w7.heap.size, 0, none⟩) 2 2] 27)) (some ⟨w7.heap.size, 0, none⟩) [⟨k6, kc6, v6, vc6, eB1⟩, ⟨k7, kc7, v7, vc7, eA1⟩] := ents_two (tb.heap na (fun x => x)) (K6.out.quiet (t7.trans tab)) (V6.out.quiet (t7.trans tab)) (hk7.quiet tab) (hv7.quiet tab)
  have hsz8 : w8.heap.size = w7.heap.size + 1 := by rw [hw8]; simp
  have AB := hide (all_bad w8.heap.size w7.heap.size _ _ _ rfl rfl (rows_one (x := ⟨some ⟨w7.heap.size, 0, none⟩, 2, [⟨k6, kc6, v6, vc6, eB1⟩, ⟨k7, kc7, v7, vc7, eA1⟩]⟩) nb ⟨hE, Nat.le_refl _, by simp⟩))
  rw [hsz8] at AB
  have T9 := hide ((T6.out.trans t7).trans tab)
  have HW8 := hide hw8
  clear b7 t7 ta na tb nb tab hE hk7 hv7 hw8 hsz8 K6 V6 T6
  go_wp2_with fail
  rw [← HW8.out]
  refine AB.out.mono ?_
  rintro e wa ⟨va, rfl, ba⟩
  have Ta := hide (T9.out.trans (Turns.of_below ba (fun _ => False)))
  clear ba T9 AB HW8
  generalize w8.alloc (.cells #[.slice (some ⟨w7.heap.size, 0, none⟩) 2 2] 27) = w9 at *
  go_wp2_with fail
  refine (lives_any wa).mono ?_
  rintro e wb ⟨rfl, bb⟩
  have Tb := hide (Ta.out.trans (Turns.of_below bb (fun _ => False)))
  clear bb Ta
  go_wp2_with fail
  refine (check_any none 0 0 [] wb (fun k x hx => by simp at hx) rfl (by decide)).mono ?_
  rintro e wc ⟨rfl, bc⟩
  rw [show ordE (inOrd (ents [])) = 0 from rfl]
  have Tc := hide (Tb.out.trans (Turns.of_below bc (fun _ => False)))
  clear bc Tb
  go_wp2_with fail
  go_ret
  exact ⟨rfl, Tc.out.below (by have := HGK.out; omega) (fun _ x => x.elim)⟩
end Go.Proofs.Ytjnpendihdlgnaa
