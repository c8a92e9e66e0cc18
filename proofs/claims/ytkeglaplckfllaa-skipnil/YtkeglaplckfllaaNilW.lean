/-
  A table that is not there, or that nobody made, tells nothing: the whole of the law.
-/
import Derived.Test.YtkeglaplckfllaaNo
namespace Go.Proofs.Ytkeglaplckfllaa
open Go.RowKit
set_option maxRecDepth 100000
set_option maxHeartbeats 8000000
/-- What the law's rounds look at. -/
structure Looks (w : World) (g q s : Nat) (cs : Array Value) : Prop where
  act : w.heap[g]? = some (.cells cs 42 (0, 0))
  tab : w.cell? ⟨q, 0, none⟩ = some (.pointer none)
  row : w.heap[s]? = some (.cells #[.pointer none, .pointer (some ⟨q, 0, none⟩)] 22 (0, 0))
theorem Looks.keep {w w' : World} {g q s : Nat} {cs : Array Value} (h : Looks w g q s cs) (t : Turns (fun _ => False) w w') : Looks w' g q s cs :=
  ⟨t.heap h.act (fun x => x), t.cell h.tab (fun x => x), t.heap h.row (fun x => x)⟩
theorem nil_any (ka va ka2 : Option Addr) (kn kc vn vc kn2 kc2 sq At : Nat) (kind H N : Int) (w : World) :
    Calls Try.prog 5 #[.agg #[.slice ka kn kc, .int .u64 (sq : Nat), .int .i64 kind, .slice va vn vc, .int .i64 H, .slice ka2 kn2 kc2, .int .u64 (At : Nat), .int .i64 N]] w fun e w' => e = .returned (.bool true) ∧ Below w.heap.size w w' := by
  go_enter Try.func5, Try.ntmps5
  go_wp2_with fail
  have tk : Turns (fun _ => False) w (((w.alloc (.cells #[.slice ka kn kc, .int .u64 (sq : Nat), .int .i64 kind, .slice va vn vc, .int .i64 H, .slice ka2 kn2 kc2, .int .u64 (At : Nat), .int .i64 N] 42)).alloc (.cells #[.pointer none, .int .i64 0, .int .i64 0] 56)).alloc (.cells #[.pointer none, .pointer (some ⟨w.heap.size + 1, 0, none⟩)] 22)) := (((Turns.refl _ w).alloc _).alloc _).alloc _
  have hlk : Looks (((w.alloc (.cells #[.slice ka kn kc, .int .u64 (sq : Nat), .int .i64 kind, .slice va vn vc, .int .i64 H, .slice ka2 kn2 kc2, .int .u64 (At : Nat), .int .i64 N] 42)).alloc (.cells #[.pointer none, .int .i64 0, .int .i64 0] 56)).alloc (.cells #[.pointer none, .pointer (some ⟨w.heap.size + 1, 0, none⟩)] 22)) w.heap.size (w.heap.size + 1) (w.heap.size + 1 + 1) #[.slice ka kn kc, .int .u64 (sq : Nat), .int .i64 kind, .slice va vn vc, .int .i64 H, .slice ka2 kn2 kc2, .int .u64 (At : Nat), .int .i64 N] := by
    refine ⟨?_, ?_, ?_⟩
    · exact (heap_alloc_old _ _ (by simp; omega)).trans ((heap_alloc_old _ _ (by simp)).trans (heap_alloc_new w _))
    · exact cell_of_row _ _ 0 _ 56 (0, 0) ((heap_alloc_old _ _ (by simp)).trans (heap_alloc2_new w _ _))
    · have := heap_alloc_new ((w.alloc (.cells #[.slice ka kn kc, .int .u64 (sq : Nat), .int .i64 kind, .slice va vn vc, .int .i64 H, .slice ka2 kn2 kc2, .int .u64 (At : Nat), .int .i64 N] 42)).alloc (.cells #[.pointer none, .int .i64 0, .int .i64 0] 56)) (.cells #[.pointer none, .pointer (some ⟨w.heap.size + 1, 0, none⟩)] 22)
      rwa [show ((w.alloc (.cells #[.slice ka kn kc, .int .u64 (sq : Nat), .int .i64 kind, .slice va vn vc, .int .i64 H, .slice ka2 kn2 kc2, .int .u64 (At : Nat), .int .i64 N] 42)).alloc (.cells #[.pointer none, .int .i64 0, .int .i64 0] 56)).heap.size = w.heap.size + 1 + 1 by simp] at this
  have TK := hide tk
  have LK0 := hide hlk
  clear tk hlk
  generalize (((w.alloc (.cells #[.slice ka kn kc, .int .u64 (sq : Nat), .int .i64 kind, .slice va vn vc, .int .i64 H, .slice ka2 kn2 kc2, .int .u64 (At : Nat), .int .i64 N] 42)).alloc (.cells #[.pointer none, .int .i64 0, .int .i64 0] 56)).alloc (.cells #[.pointer none, .pointer (some ⟨w.heap.size + 1, 0, none⟩)] 22)) = w1 at *
  generalize w.heap.size + 1 + 1 = s at *
  generalize w.heap.size + 1 = q at *
  generalize hg : w.heap.size = g at *
  go_loopw [4] (fun iv wr => ∃ i : Nat, iv = .int .i64 (i : Nat) ∧ i ≤ 2 ∧ Turns (fun _ => False) w1 wr) (fun iv _ => 2 - (intOf iv).toNat)
  case atStart => exact ⟨0, rfl, by omega, Turns.refl _ _⟩
  case round =>
    obtain ⟨i, rfl, hi, ht⟩ := hrel
    have TT := hide ht
    have LK := hide (LK0.out.keep ht)
    clear ht
    by_cases hi2 : i < 2
    · have i1 : (i : Int) < 2 := by omega
      obtain ⟨p, hp, hn⟩ : ∃ p, wr.cell? ⟨s, i, none⟩ = some (.pointer p) ∧ NoTab wr p := by
        have hc := cell_of_row wr s i _ 22 (0, 0) LK.out.row
        have : i = 0 ∨ i = 1 := by omega
        rcases this with rfl | rfl
        · exact ⟨_, hc, .inl rfl⟩
        · exact ⟨_, hc, .inr ⟨_, rfl, LK.out.tab⟩⟩
      have NT := hide hn
      clear hn
      have c5 : wr.cell? ⟨g, 5, none⟩ = some (.slice ka2 kn2 kc2) := cell_of_row wr g 5 _ 42 (0, 0) LK.out.act
      have c6 : wr.cell? ⟨g, 6, none⟩ = some (.int .u64 (At : Nat)) := cell_of_row wr g 6 _ 42 (0, 0) LK.out.act
      go_wp2_with fail
      refine (get_no p _ NT.out _ _).mono ?_
      rintro e w2 ⟨rfl, b2⟩
      have tt := Turns.of_below b2 (fun _ => False)
      have LK := hide (LK.out.keep tt)
      have NT := hide (NT.out.quiet tt)
      have TT := hide (TT.out.trans tt)
      clear tt b2
      clear c5 c6
      go_upto_region 7 with (fail)
      have tt : Turns (fun _ => False) w2 (w2.alloc (.cells #[.slice none 0 0, .int .u64 0, .int .i64 0, .slice none 0 0] 29)) := (Turns.refl _ _).alloc _
      have R2 := hide (heap_alloc_new w2 (.cells #[.slice none 0 0, .int .u64 0, .int .i64 0, .slice none 0 0] 29))
      have LK := hide (LK.out.keep tt)
      have NT := hide (NT.out.quiet tt)
      have TT := hide (TT.out.trans tt)
      clear tt
      generalize w2.alloc (.cells #[.slice none 0 0, .int .u64 0, .int .i64 0, .slice none 0 0] 29) = w3 at *
      generalize w2.heap.size = g2 at *
      have c5 : w3.cell? ⟨g, 5, none⟩ = some (.slice ka2 kn2 kc2) := cell_of_row w3 g 5 _ 42 (0, 0) LK.out.act
      have c6 : w3.cell? ⟨g, 6, none⟩ = some (.int .u64 (At : Nat)) := cell_of_row w3 g 6 _ 42 (0, 0) LK.out.act
      go_wp2_with fail
      refine (seek_no p _ NT.out _ _).mono ?_
      rintro e w4 ⟨rfl, b4⟩
      have tt := Turns.of_below b4 (fun _ => False)
      have LK := hide (LK.out.keep tt)
      have NT := hide (NT.out.quiet tt)
      have TT := hide (TT.out.trans tt)
      have R2 := hide (tt.heap R2.out (fun x => x))
      clear tt b4
      clear c5 c6
      go_upto_region 8 with (fail)
      have tt : Turns (fun _ => False) w4 (w4.alloc (.cells #[.slice none 0 0, .int .u64 0, .int .i64 0, .slice none 0 0] 29)) := (Turns.refl _ _).alloc _
      have R4 := hide (heap_alloc_new w4 (.cells #[.slice none 0 0, .int .u64 0, .int .i64 0, .slice none 0 0] 29))
      have LK := hide (LK.out.keep tt)
      have NT := hide (NT.out.quiet tt)
      have TT := hide (TT.out.trans tt)
      have R2 := hide (tt.heap R2.out (fun x => x))
      clear tt
      generalize w4.alloc (.cells #[.slice none 0 0, .int .u64 0, .int .i64 0, .slice none 0 0] 29) = w5 at *
      generalize w4.heap.size = g4 at *
      have c0 : w5.cell? ⟨g, 0, none⟩ = some (.slice ka kn kc) := cell_of_row w5 g 0 _ 42 (0, 0) LK.out.act
      have c1 : w5.cell? ⟨g, 1, none⟩ = some (.int .u64 (sq : Nat)) := cell_of_row w5 g 1 _ 42 (0, 0) LK.out.act
      have c2 : w5.cell? ⟨g, 2, none⟩ = some (.int .i64 kind) := cell_of_row w5 g 2 _ 42 (0, 0) LK.out.act
      have c3 : w5.cell? ⟨g, 3, none⟩ = some (.slice va vn vc) := cell_of_row w5 g 3 _ 42 (0, 0) LK.out.act
      have c4 : w5.cell? ⟨g, 4, none⟩ = some (.int .i64 H) := cell_of_row w5 g 4 _ 42 (0, 0) LK.out.act
      go_wp2_with fail
      refine (insert_no p _ NT.out _ _ _ _ _).mono ?_
      rintro e w6 ⟨rfl, b6⟩
      have tt := Turns.of_below b6 (fun _ => False)
      have LK := hide (LK.out.keep tt)
      have NT := hide (NT.out.quiet tt)
      have TT := hide (TT.out.trans tt)
      have R2 := hide (tt.heap R2.out (fun x => x))
      have R4 := hide (tt.heap R4.out (fun x => x))
      clear tt b6
      clear c0 c1 c2 c3 c4
      have z0 : w6.cell? ⟨g2, 0, none⟩ = some (.slice none 0 0) := cell_of_row w6 g2 0 _ 29 (0, 0) R2.out
      have z1 : w6.cell? ⟨g2, 1, none⟩ = some (.int .u64 0) := cell_of_row w6 g2 1 _ 29 (0, 0) R2.out
      have z2 : w6.cell? ⟨g2, 2, none⟩ = some (.int .i64 0) := cell_of_row w6 g2 2 _ 29 (0, 0) R2.out
      have z3 : w6.cell? ⟨g2, 3, none⟩ = some (.slice none 0 0) := cell_of_row w6 g2 3 _ 29 (0, 0) R2.out
      go_wp2_with fail
      refine (entry_same none none none none 0 0 0 0 0 0 0 0 [] [] _ (Bytes.empty _) (Bytes.empty _) (Bytes.empty _) (Bytes.empty _) (by decide) (by decide)).mono ?_
      rintro e w7 ⟨rfl, b7⟩
      have tt := Turns.of_below b7 (fun _ => False)
      have LK := hide (LK.out.keep tt)
      have NT := hide (NT.out.quiet tt)
      have TT := hide (TT.out.trans tt)
      have R2 := hide (tt.heap R2.out (fun x => x))
      have R4 := hide (tt.heap R4.out (fun x => x))
      clear tt b7
      clear z0 z1 z2 z3
      have z0 : w7.cell? ⟨g4, 0, none⟩ = some (.slice none 0 0) := cell_of_row w7 g4 0 _ 29 (0, 0) R4.out
      have z1 : w7.cell? ⟨g4, 1, none⟩ = some (.int .u64 0) := cell_of_row w7 g4 1 _ 29 (0, 0) R4.out
      have z2 : w7.cell? ⟨g4, 2, none⟩ = some (.int .i64 0) := cell_of_row w7 g4 2 _ 29 (0, 0) R4.out
      have z3 : w7.cell? ⟨g4, 3, none⟩ = some (.slice none 0 0) := cell_of_row w7 g4 3 _ 29 (0, 0) R4.out
      go_wp2_with fail
      refine (entry_same none none none none 0 0 0 0 0 0 0 0 [] [] _ (Bytes.empty _) (Bytes.empty _) (Bytes.empty _) (Bytes.empty _) (by decide) (by decide)).mono ?_
      rintro e w8 ⟨rfl, b8⟩
      have tt := Turns.of_below b8 (fun _ => False)
      have LK := hide (LK.out.keep tt)
      have NT := hide (NT.out.quiet tt)
      have TT := hide (TT.out.trans tt)
      have R2 := hide (tt.heap R2.out (fun x => x))
      have R4 := hide (tt.heap R4.out (fun x => x))
      clear tt b8
      clear z0 z1 z2 z3 R2 R4
      go_wp2_with fail
      refine (all_no p _ NT.out).mono ?_
      rintro e w9 ⟨rfl, b9⟩
      have tt := Turns.of_below b9 (fun _ => False)
      have LK := hide (LK.out.keep tt)
      have NT := hide (NT.out.quiet tt)
      have TT := hide (TT.out.trans tt)
      clear tt b9
      have c5 : w9.cell? ⟨g, 5, none⟩ = some (.slice ka2 kn2 kc2) := cell_of_row w9 g 5 _ 42 (0, 0) LK.out.act
      go_wp2_with fail
      refine (from_no p _ NT.out _ _).mono ?_
      rintro e w10 ⟨rfl, b10⟩
      have tt := Turns.of_below b10 (fun _ => False)
      have LK := hide (LK.out.keep tt)
      have NT := hide (NT.out.quiet tt)
      have TT := hide (TT.out.trans tt)
      clear tt b10
      clear c5
      go_wp2_with fail
      refine (len_no p _ NT.out).mono ?_
      rintro e w11 ⟨rfl, hw11⟩
      subst hw11
      go_wp2_with fail
      refine (size_no p _ NT.out).mono ?_
      rintro e w12 ⟨rfl, hw12⟩
      subst hw12
      have c5 := cell_of_row _ g 5 _ 42 (0, 0) LK.out.act
      have c6 := cell_of_row _ g 6 _ 42 (0, 0) LK.out.act
      simp only [List.getElem?_toArray, List.getElem?_cons_succ, List.getElem?_cons_zero] at c5 c6
      go_wp2_with fail
      refine (height_no p _ NT.out _ _).mono ?_
      rintro e w13 ⟨rfl, hw13⟩
      subst hw13
      go_wp2_with fail
      refine (steps_no p _ NT.out _ _).mono ?_
      rintro e w14 ⟨rfl, hw14⟩
      subst hw14
      go_wp2_with fail
      go_roundw
      case rel => exact ⟨i + 1, by go_num, by omega, TT.out⟩
      case measure =>
        simp [intOf]
        omega
    · have i1 : ¬ (i : Int) < 2 := by omega
      have HL := hide (lives_any wr)
      go_wp2_with fail
      refine HL.out.mono ?_
      rintro e w2 ⟨rfl, b2⟩
      have TT := hide (TT.out.trans (Turns.of_below b2 (fun _ => False)))
      clear b2
      go_wp2_with fail
      go_ret
      exact ⟨rfl, by rw [hg]; exact (TK.out.trans TT.out).below (by omega) (fun _ x => x.elim)⟩
end Go.Proofs.Ytkeglaplckfllaa
