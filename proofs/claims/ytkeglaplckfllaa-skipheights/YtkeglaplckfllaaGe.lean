/-
  What a table tells of one key.
-/
import Derived.Test.YtkeglaplckfllaaGt
namespace Go.Proofs.Ytkeglaplckfllaa
open Go.RowKit
set_option maxRecDepth 100000
set_option maxHeartbeats 4000000
section
variable (A : Nat → Prop) (t bg : Nat) (ts : List Tow) (w : World) (ka : Option Addr) (kn kc seq : Nat) (key : List (BitVec 8))
theorem get_any (h : Tab A w t bg ts) (hk : Bytes w (.slice ka kn kc) key) (hn : ts.length ≤ 1000000) (hs : sizeT ts ≤ 1000000) (R : Ending → World → Prop)
    (H0 : (∀ x, ts[place (key, seq) ts]? = some x → x.e.key ≠ key) → ∀ w', Below w.heap.size w w' → R (.returned (.tuple #[.agg #[.slice none 0 0, .int .u64 0, .int .i64 0, .slice none 0 0], .int .i64 6])) w')
    (H1 : ∀ x, ts[place (key, seq) ts]? = some x → x.e.key = key → ∀ w' ka' kc' va' vc', Bytes w' (.slice ka' x.e.key.length kc') x.e.key → Bytes w' (.slice va' x.e.val.length vc') x.e.val → Below w.heap.size w w' → R (.returned (.tuple #[.agg #[.slice ka' x.e.key.length kc', .int .u64 (x.e.seq : Nat), .int .i64 x.e.kind, .slice va' x.e.val.length vc'], .int .i64 0])) w') :
    Calls Try.prog 18 #[.pointer (some ⟨t, 0, none⟩), .slice ka kn kc, .int .u64 (seq : Nat)] w R := by
  have T0 := hide ((Turns.refl (fun _ => False) w).alloc (.cells #[.slice none 0 0, .int .u64 0, .int .i64 0, .slice none 0 0] 29))
  have HT := hide (h.quiet T0.out)
  have HK := hide (hk.quiet T0.out)
  have HR := hide (heap_alloc_new w (.cells #[.slice none 0 0, .int .u64 0, .int .i64 0, .slice none 0 0] 29))
  have HM := hide (made_any A t bg ts _ HT.out)
  have HL := hide (look_any A t bg ts ka kn kc seq key _ HT.out HK.out hn)
  have hpl := place_le (key, seq) ts
  have HH0 := hide H0
  have HH1 := hide H1
  clear h hk H0 H1
  generalize place (key, seq) ts = n at *
  go_enter Try.func18, Try.ntmps18
  go_upto_region 1 with (fail)
  generalize w.alloc (.cells #[.slice none 0 0, .int .u64 0, .int .i64 0, .slice none 0 0] 29) = w0 at *
  generalize hg0 : w.heap.size = g at *
  go_upto_region 4 with (first | (go_at_call 35; refine HM.out.mono ?_; rintro e w1 ⟨rfl, hw1⟩; subst hw1) | (go_at_call 37; refine HL.out.mono ?_; rintro e w2 ⟨cs, rfl, hp, b2⟩; have PIN := hide hp; have T2 := hide (Turns.of_below b2 (fun _ => False)); clear hp b2) | (go_at_call 41; refine (behind_any w2 (HT.out.quiet T2.out) hpl PIN.out).mono ?_; rintro e w3 ⟨rfl, b3⟩; have T3 := hide (T2.out.trans (Turns.of_below b3 (fun _ => False))); clear b3))
  have HR3 := hide (T3.out.heap HR.out (fun x => x))
  cases hx : ts[n]? with
  | none =>
    rw [show ptrO (Option.map (·.b) (none : Option Tow)) = Value.pointer none from rfl]
    have HX := hide hx
    clear hx
    have q0 := cell_of_row w3 g 0 _ 29 (0, 0) HR3.out
    have q1 := cell_of_row w3 g 1 _ 29 (0, 0) HR3.out
    have q2 := cell_of_row w3 g 2 _ 29 (0, 0) HR3.out
    have q3 := cell_of_row w3 g 3 _ 29 (0, 0) HR3.out
    have f0 := frozen_of_row w3 g 0 _ 29 HR3.out
    have f1 := frozen_of_row w3 g 1 _ 29 HR3.out
    have f2 := frozen_of_row w3 g 2 _ 29 HR3.out
    have f3 := frozen_of_row w3 g 3 _ 29 HR3.out
    go_wp2_with fail
    have k3 := (((((Tick.refl HR3.out).set 0 (.slice none 0 0)).set 1 (.int .u64 0)).set 2 (.int .i64 0)).set 3 (.slice none 0 0))
    refine bodyPost_ret (v := .tuple #[.agg #[.slice none 0 0, .int .u64 0, .int .i64 0, .slice none 0 0], .int .i64 6]) ?_ rfl ?_
    · exact results_cell_tmp Try.results18 _ _ _ _ _ _ _ _ rfl rfl k3.1 Try.underlying29 rfl info29
    · refine HH0.out (fun x hx => by rw [HX.out] at hx; cases hx) _ ?_
      exact ((T0.out.trans T3.out).andThen (Turns.of_tick k3) (fun k hk e => by omega)).below (by omega) (fun _ x => x.elim)
  | some x =>
    rw [show ptrO (Option.map (·.b) (some x)) = Value.pointer (some ⟨x.b, 0, none⟩) from rfl]
    have HX := hide hx
    have TB := hide (HT.out.quiet T3.out)
    obtain ⟨cx, hnx, hex⟩ := TB.out.nodes.node (n + 1) (by have := (List.getElem?_eq_some_iff.1 hx).1; omega)
    have hex := hex n x rfl hx
    rw [nodeB_at hx] at hnx
    have x0 : w3.cell? ⟨x.b, 0, none⟩ = some (.slice x.ka x.e.key.length x.kc) := (cell_of_row w3 x.b 0 cx 64 (0, 0) hnx.heap).trans hex.1
    have x1 : w3.cell? ⟨x.b, 1, none⟩ = some (.int .u64 (x.e.seq : Nat)) := (cell_of_row w3 x.b 1 cx 64 (0, 0) hnx.heap).trans hex.2.1
    have x2 : w3.cell? ⟨x.b, 2, none⟩ = some (.int .i64 x.e.kind) := (cell_of_row w3 x.b 2 cx 64 (0, 0) hnx.heap).trans hex.2.2.1
    have x3 : w3.cell? ⟨x.b, 3, none⟩ = some (.slice x.va x.e.val.length x.vc) := (cell_of_row w3 x.b 3 cx 64 (0, 0) hnx.heap).trans hex.2.2.2
    have hmem := List.mem_of_getElem? hx
    have hle := sizeT_mem hmem
    have HCL := hide (cloneE_any x.ka x.va x.e.key.length x.kc x.e.val.length x.vc x.e.seq x.e.kind x.e.key x.e.val w3 (TB.out.keys x hmem).1 (TB.out.keys x hmem).2 (by omega) (by omega))
    have HEQ := hide (equal_any x.ka ka x.e.key.length kn x.kc kc x.e.key key w3 (TB.out.keys x hmem).1 (HK.out.quiet T3.out))
    clear hnx hex hx hmem
    by_cases heq : x.e.key = key
    · have HD := hide (show decide (x.e.key = key) = true by simp [heq])
      have HEK := hide heq
      clear heq
      go_wp2_with (first | (go_at_call 46; refine HEQ.out.mono ?_; rintro e w9 ⟨rfl, hw9⟩; subst hw9; rw [HD.out]) | (go_at_call 40; refine HCL.out.mono ?_; rintro e w4 ⟨ka', kc', va', vc', rfl, hk4, hv4, hkb, hvb, b4⟩; have T4 := hide (T3.out.trans (Turns.of_below b4 (fun _ => False))); have HK4 := hide hk4; have HV4 := hide hv4; have HKB := hide hkb; have HVB := hide hvb; have hs34 := T3.out.size; have HR4 := hide (T4.out.heap HR.out (fun x => x)); have q0 := cell_of_row w4 g 0 _ 29 (0, 0) HR4.out; have q1 := cell_of_row w4 g 1 _ 29 (0, 0) HR4.out; have q2 := cell_of_row w4 g 2 _ 29 (0, 0) HR4.out; have q3 := cell_of_row w4 g 3 _ 29 (0, 0) HR4.out; have f0 := frozen_of_row w4 g 0 _ 29 HR4.out; have f1 := frozen_of_row w4 g 1 _ 29 HR4.out; have f2 := frozen_of_row w4 g 2 _ 29 HR4.out; have f3 := frozen_of_row w4 g 3 _ 29 HR4.out; clear hk4 hv4 hkb hvb b4 x0 x1 x2 x3))
      have k3 := (((((Tick.refl HR4.out).set 0 (.slice ka' x.e.key.length kc')).set 1 (.int .u64 (x.e.seq : Nat))).set 2 (.int .i64 x.e.kind)).set 3 (.slice va' x.e.val.length vc'))
      have u3 := Turns.of_tick k3
      have hgl : g < w1.heap.size := lt_of_heap HR.out
      refine bodyPost_ret (v := .tuple #[.agg #[.slice ka' x.e.key.length kc', .int .u64 (x.e.seq : Nat), .int .i64 x.e.kind, .slice va' x.e.val.length vc'], .int .i64 0]) ?_ rfl ?_
      · exact results_cell_tmp Try.results18 _ _ _ _ _ _ _ _ rfl rfl k3.1 Try.underlying29 rfl info29
      · refine HH1.out x HX.out HEK.out _ ka' kc' va' vc' (bytes_keep HK4.out u3 fun a e => ?_) (bytes_keep HV4.out u3 fun a e => ?_) ?_
        · have := (HKB.out a e).1; show ¬ a.block = g; omega
        · have := (HVB.out a e).1; show ¬ a.block = g; omega
        · exact ((T0.out.trans T4.out).andThen u3 (fun k hk e => by omega)).below (by omega) (fun _ x => x.elim)
    · have HD := hide (show decide (x.e.key = key) = false by simp [heq])
      have q0 := cell_of_row w3 g 0 _ 29 (0, 0) HR3.out
      have q1 := cell_of_row w3 g 1 _ 29 (0, 0) HR3.out
      have q2 := cell_of_row w3 g 2 _ 29 (0, 0) HR3.out
      have q3 := cell_of_row w3 g 3 _ 29 (0, 0) HR3.out
      have f0 := frozen_of_row w3 g 0 _ 29 HR3.out
      have f1 := frozen_of_row w3 g 1 _ 29 HR3.out
      have f2 := frozen_of_row w3 g 2 _ 29 HR3.out
      have f3 := frozen_of_row w3 g 3 _ 29 HR3.out
      have k3 := (((((Tick.refl HR3.out).set 0 (.slice none 0 0)).set 1 (.int .u64 0)).set 2 (.int .i64 0)).set 3 (.slice none 0 0))
      have K3 := hide k3
      clear k3
      have hfin := hide (((T0.out.trans T3.out).andThen (Turns.of_tick K3.out) (fun k hk e => by omega)).below (B := g) (by omega) (fun _ x => x.elim))
      go_wp2_with (first | (go_at_call 46; refine HEQ.out.mono ?_; rintro e w9 ⟨rfl, hw9⟩; subst hw9; rw [HD.out]))
      refine bodyPost_ret (v := .tuple #[.agg #[.slice none 0 0, .int .u64 0, .int .i64 0, .slice none 0 0], .int .i64 6]) ?_ rfl ?_
      · exact results_cell_tmp Try.results18 _ _ _ _ _ _ _ _ rfl rfl K3.out.1 Try.underlying29 rfl info29
      · exact HH0.out (fun y hy => by rw [HX.out] at hy; cases hy; exact heq) _ hfin.out
end
end Go.Proofs.Ytkeglaplckfllaa
