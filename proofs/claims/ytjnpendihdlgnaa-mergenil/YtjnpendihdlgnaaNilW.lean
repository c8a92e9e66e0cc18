/-
  A merger that is not there, or that nobody made.
-/
import Derived.Test.YtjnpendihdlgnaaLw
import Derived.Test.YtjnpendihdlgnaaNo
namespace Go.Proofs.Ytjnpendihdlgnaa
open Go.RowKit
set_option maxRecDepth 100000
set_option maxHeartbeats 4000000
section
variable {P : Program}
theorem results_cell_tmp {fn : Func} {j p : Tmp} {ty : TypeId} (h : fn.results = #[.cell p ty, .tmp j]) (tmps : Array Value) (w : World) (u : Value) (g : Nat) (t : TypeId) (cs : Array Value) (fr : Nat × Nat) (d : TypeDesc)
    (hu' : tmps.getD j undef = u) (hp : tmps.getD p undef = .pointer (some ⟨g, 0, none⟩)) (hg : w.heap[g]? = some (.cells cs t fr))
    (hu : P.underlying ty = some d) (hd : (match d with | .struct _ | .array _ _ => true | _ => false) = true) (hi : (P.info? ty).map (·.size) = some cs.size) :
    (results fn tmps).run P w = .ok (.tuple #[.agg cs, u]) w := by
  have hp' : tmps[p]?.getD undef = .pointer (some ⟨g, 0, none⟩) := by simpa using hp
  have hw' : tmps[j]?.getD undef = u := by simpa using hu'
  simp [results, h, hp', hw', asAddr, run_loadVar_row w g t ty cs fr d hg hu hd hi]
end
def NoM (w : World) (v : Value) : Prop := v = .pointer none ∨ ∃ b, v = .pointer (some ⟨b, 0, none⟩) ∧ w.heap[b]? = some (.cells #[.pointer none, .slice none 0 0, .int .i64 0] 52 (0, 0))
theorem NoM.quiet {w w' : World} {v : Value} (h : NoM w v) (t : Turns (fun _ => False) w w') : NoM w' v := by
  rcases h with h | ⟨b, h1, h2⟩
  · exact .inl h
  · exact .inr ⟨b, h1, t.heap h2 (fun x => x)⟩
theorem made_no (v : Value) (w : World) (h : NoM w v) : Calls Try.prog 46 #[v] w fun e w' => e = .returned (.bool false) ∧ w' = w := by
  rcases h with rfl | ⟨b, rfl, h⟩
  · go_enter Try.func46, Try.ntmps46
    go_wp2_with fail
    go_ret
    exact ⟨rfl, rfl⟩
  · have c0 := cell_of_row w b 0 _ 52 (0, 0) h
    have q1 : ∀ w, (binOp .eql 41 (.pointer none) (.pointer (some ⟨b, 0, none⟩))).run Try.prog w = .ok (.bool false) w := fun _ => by kernel_rfl
    have q2 : ∀ w, (binOp .neq 41 (.pointer (some ⟨b, 0, none⟩)) (.pointer none)).run Try.prog w = .ok (.bool true) w := fun _ => by kernel_rfl
    go_enter Try.func46, Try.ntmps46
    go_wp2_with fail
    go_ret
    exact ⟨rfl, rfl⟩
theorem left_no (v : Value) (w : World) (h : NoM w v) : Calls Try.prog 24 #[v] w fun e w' => e = .returned (.int .i64 0) ∧ w' = w := by
  go_enter Try.func24, Try.ntmps24
  go_wp2_with fail
  refine (made_no v w h).mono ?_
  rintro e w1 ⟨rfl, rfl⟩
  go_wp2_with fail
  go_ret
  exact ⟨rfl, rfl⟩
theorem next_no (v : Value) (w : World) (h : NoM w v) : Calls Try.prog 25 #[v] w fun e w' => e = .returned (.tuple #[.agg #[.slice none 0 0, .int .u64 0, .int .i64 0, .slice none 0 0], .bool false]) ∧ Below w.heap.size w w' := by
  have t0 := (Turns.refl (fun _ => False) w).alloc (.cells #[.slice none 0 0, .int .u64 0, .int .i64 0, .slice none 0 0] 25)
  have H0 := hide (h.quiet t0)
  have B0 := hide (t0.below (B := w.heap.size) (Nat.le_refl _) (fun _ x => x.elim))
  clear h t0
  go_enter Try.func25, Try.ntmps25
  go_wp2_with fail
  refine (left_no v _ H0.out).mono ?_
  rintro e w1 ⟨rfl, rfl⟩
  go_wp2_with fail
  refine bodyPost_ret (v := .tuple #[.agg #[.slice none 0 0, .int .u64 0, .int .i64 0, .slice none 0 0], .bool false]) ?_ rfl ?_
  · exact results_cell_tmp Try.results25 _ _ _ _ _ _ _ _ rfl rfl (heap_alloc_new w _) Try.underlying25 rfl info29
  · exact ⟨rfl, B0.out⟩
theorem peek_no (v : Value) (w : World) (h : NoM w v) : Calls Try.prog 22 #[v] w fun e w' => e = .returned (.tuple #[.agg #[.slice none 0 0, .int .u64 0, .int .i64 0, .slice none 0 0], .bool false]) ∧ Below w.heap.size w w' := by
  have t0 := (Turns.refl (fun _ => False) w).alloc (.cells #[.slice none 0 0, .int .u64 0, .int .i64 0, .slice none 0 0] 25)
  have H0 := hide (h.quiet t0)
  have B0 := hide (t0.below (B := w.heap.size) (Nat.le_refl _) (fun _ x => x.elim))
  clear h t0
  go_enter Try.func22, Try.ntmps22
  go_wp2_with fail
  refine (left_no v _ H0.out).mono ?_
  rintro e w1 ⟨rfl, rfl⟩
  go_wp2_with fail
  refine bodyPost_ret (v := .tuple #[.agg #[.slice none 0 0, .int .u64 0, .int .i64 0, .slice none 0 0], .bool false]) ?_ rfl ?_
  · exact results_cell_tmp Try.results22 _ _ _ _ _ _ _ _ rfl rfl (heap_alloc_new w _) Try.underlying25 rfl info29
  · exact ⟨rfl, B0.out⟩
theorem nil_any (w : World) : Calls Try.prog 6 #[] w fun e w' => e = .returned (.bool true) ∧ Below w.heap.size w w' := by
  have tk : Turns (fun _ => False) w ((w.alloc (.cells #[.pointer none, .slice none 0 0, .int .i64 0] 52)).alloc (.cells #[.pointer none, .pointer (some ⟨w.heap.size, 0, none⟩)] 41)) := ((Turns.refl _ w).alloc _).alloc _
  have n0 := (Turns.refl (fun _ => False) (w.alloc (.cells #[.pointer none, .slice none 0 0, .int .i64 0] 52))).alloc (.cells #[.pointer none, .pointer (some ⟨w.heap.size, 0, none⟩)] 41) |>.heap (heap_alloc_new w (.cells #[.pointer none, .slice none 0 0, .int .i64 0] 52)) (fun x => x)
  have n1 := heap_alloc_new (w.alloc (.cells #[.pointer none, .slice none 0 0, .int .i64 0] 52)) (.cells #[.pointer none, .pointer (some ⟨w.heap.size, 0, none⟩)] 41)
  rw [World.size_alloc] at n1
  have TK := hide tk
  have N0 := hide n0
  have N1 := hide n1
  clear tk n0 n1
  go_enter Try.func6, Try.ntmps6
  go_wp2_with fail
  generalize (w.alloc (.cells #[.pointer none, .slice none 0 0, .int .i64 0] 52)).alloc (.cells #[.pointer none, .pointer (some ⟨w.heap.size, 0, none⟩)] 41) = w1 at *
  generalize w.heap.size + 1 = s at *
  generalize hg : w.heap.size = g at *
  have HG := hide hg
  clear hg
  go_loopw [2] (fun iv wr => ∃ i : Nat, iv = .int .i64 (i : Nat) ∧ i ≤ 2 ∧ Turns (fun _ => False) w1 wr) (fun iv _ => 2 - (intOf iv).toNat)
  case atStart => exact ⟨0, rfl, by omega, Turns.refl _ _⟩
  case round =>
    obtain ⟨i, rfl, hi, ht⟩ := hrel
    have TT := hide ht
    have R0 := hide (ht.heap N0.out (fun x => x))
    have R1 := hide (ht.heap N1.out (fun x => x))
    clear ht
    by_cases hi2 : i < 2
    · have i1 : (i : Int) < 2 := by omega
      obtain ⟨p, hp, hn⟩ : ∃ p, wr.cell? ⟨s, i, none⟩ = some (.pointer p) ∧ NoM wr (.pointer p) := by
        have hc := cell_of_row wr s i _ 41 (0, 0) R1.out
        have : i = 0 ∨ i = 1 := by omega
        rcases this with rfl | rfl
        · exact ⟨_, hc, .inl rfl⟩
        · exact ⟨_, hc, .inr ⟨_, rfl, R0.out⟩⟩
      have NT := hide hn
      clear hn
      go_wp2_with fail
      refine (next_no _ wr NT.out).mono ?_
      rintro e w2 ⟨rfl, b2⟩
      have tt := (Turns.of_below b2 (fun _ => False)).alloc (.cells #[.slice none 0 0, .int .u64 0, .int .i64 0, .slice none 0 0] 25)
      have n2 := heap_alloc_new w2 (.cells #[.slice none 0 0, .int .u64 0, .int .i64 0, .slice none 0 0] 25)
      have hp := tt.cell hp (fun x => x)
      have X2 := hide n2
      have NT2 := hide (NT.out.quiet tt)
      have TT2 := hide (TT.out.trans tt)
      clear tt b2 n2 NT
      go_upto_region 6 with (fail)
      generalize w2.alloc (.cells #[.slice none 0 0, .int .u64 0, .int .i64 0, .slice none 0 0] 25) = w3 at *
      generalize w2.heap.size = gx at *
      go_wp2_with fail
      refine (peek_no _ w3 NT2.out).mono ?_
      rintro e w4 ⟨rfl, b4⟩
      have tt := (Turns.of_below b4 (fun _ => False)).alloc (.cells #[.slice none 0 0, .int .u64 0, .int .i64 0, .slice none 0 0] 25)
      have n4 := heap_alloc_new w4 (.cells #[.slice none 0 0, .int .u64 0, .int .i64 0, .slice none 0 0] 25)
      have hp := tt.cell hp (fun x => x)
      have X4 := hide (tt.heap X2.out (fun x => x))
      have Y4 := hide n4
      have NT4 := hide (NT2.out.quiet tt)
      have TT4 := hide (TT2.out.trans tt)
      clear tt b4 n4 NT2 X2
      go_upto_region 7 with (fail)
      generalize w4.alloc (.cells #[.slice none 0 0, .int .u64 0, .int .i64 0, .slice none 0 0] 25) = w5 at *
      generalize w4.heap.size = gy at *
      have x0 := cell_of_row w5 gx 0 _ 25 (0, 0) X4.out
      have x1 := cell_of_row w5 gx 1 _ 25 (0, 0) X4.out
      have x2 := cell_of_row w5 gx 2 _ 25 (0, 0) X4.out
      have x3 := cell_of_row w5 gx 3 _ 25 (0, 0) X4.out
      go_wp2_with fail
      refine (entry_same none none none none 0 0 0 0 0 0 0 0 [] [] w5 (Bytes.nothing _ _) (Bytes.nothing _ _) (Bytes.nothing _ _) (Bytes.nothing _ _) (by decide) (by decide)).mono ?_
      rintro e w6 ⟨rfl, b6⟩
      have tt := Turns.of_below b6 (fun _ => False)
      have hp := tt.cell hp (fun x => x)
      have Y6 := hide (tt.heap Y4.out (fun x => x))
      have NT6 := hide (NT4.out.quiet tt)
      have TT6 := hide (TT4.out.trans tt)
      clear tt b6 NT4 Y4
      have y0 := cell_of_row w6 gy 0 _ 25 (0, 0) Y6.out
      have y1 := cell_of_row w6 gy 1 _ 25 (0, 0) Y6.out
      have y2 := cell_of_row w6 gy 2 _ 25 (0, 0) Y6.out
      have y3 := cell_of_row w6 gy 3 _ 25 (0, 0) Y6.out
      go_wp2_with fail
      refine (entry_same none none none none 0 0 0 0 0 0 0 0 [] [] w6 (Bytes.nothing _ _) (Bytes.nothing _ _) (Bytes.nothing _ _) (Bytes.nothing _ _) (by decide) (by decide)).mono ?_
      rintro e w7 ⟨rfl, b7⟩
      have tt := Turns.of_below b7 (fun _ => False)
      have hp := tt.cell hp (fun x => x)
      have NT7 := hide (NT6.out.quiet tt)
      have TT7 := hide (TT6.out.trans tt)
      clear tt b7 NT6
      go_wp2_with fail
      refine (left_no _ w7 NT7.out).mono ?_
      rintro e w8 ⟨rfl, rfl⟩
      go_wp2_with fail
      go_roundw
      case rel => exact ⟨i + 1, by go_num, by omega, TT7.out⟩
      case measure => simp [intOf]; omega
    · obtain rfl : i = 2 := by omega
      go_wp2_with fail
      refine (lives_any wr).mono ?_
      rintro e w2 ⟨rfl, b2⟩
      have FIN := hide ((TK.out.trans TT.out).trans (Turns.of_below b2 (fun _ => False)))
      clear b2
      go_wp2_with fail
      go_ret
      exact ⟨rfl, FIN.out.below (by have := HG.out; omega) (fun _ x => x.elim)⟩
end Go.Proofs.Ytjnpendihdlgnaa
