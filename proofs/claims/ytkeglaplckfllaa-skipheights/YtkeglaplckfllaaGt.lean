/-
  What a table tells of one entry.
-/
import Derived.Test.YtkeglaplckfllaaBh
namespace Go.Proofs.Ytkeglaplckfllaa
open Go.RowKit
set_option maxRecDepth 100000
set_option maxHeartbeats 4000000
theorem made_any (A : Nat → Prop) (t bg : Nat) (ts : List Tow) (w : World) (h : Tab A w t bg ts) : Calls Try.prog 35 #[.pointer (some ⟨t, 0, none⟩)] w fun e w' => e = .returned (.bool true) ∧ w' = w := by
  have t0 : w.cell? ⟨t, 0, none⟩ = some (.pointer (some ⟨bg, 0, none⟩)) := cell_of_row w t 0 _ 56 (0, 0) h.tab
  clear h
  go_enter Try.func35, Try.ntmps35
  go_wp2_with fail
  go_ret
  exact ⟨rfl, rfl⟩
/-- A table that is not there, or that nobody made. -/
def NoTab (w : World) (p : Option Addr) : Prop := p = none ∨ ∃ t, p = some ⟨t, 0, none⟩ ∧ w.cell? ⟨t, 0, none⟩ = some (.pointer none)
theorem made_no (p : Option Addr) (w : World) (h : NoTab w p) : Calls Try.prog 35 #[.pointer p] w fun e w' => e = .returned (.bool false) ∧ w' = w := by
  rcases h with rfl | ⟨t, rfl, h⟩
  · go_enter Try.func35, Try.ntmps35
    go_wp2_with fail
    go_ret
    exact ⟨rfl, rfl⟩
  · go_enter Try.func35, Try.ntmps35
    go_wp2_with fail
    go_ret
    exact ⟨rfl, rfl⟩
theorem equal_any (a a' : Option Addr) (n n' c c' : Nat) (x y : List (BitVec 8)) (w : World) (h : Bytes w (.slice a n c) x) (h' : Bytes w (.slice a' n' c') y) :
    Calls Try.prog 46 #[.slice a n c, .slice a' n' c'] w fun e w' => e = .returned (.bool (decide (x = y))) ∧ w' = w := by
  have h1 := conv_any h
  have h2 := conv_any h'
  have hd : (u8s x == u8s y) = decide (x = y) := by
    by_cases e : x = y
    · simp [e]
    · have : ¬ u8s x = u8s y := fun e2 => e (u8s_inj e2)
      simp [e, this]
  rw [← hd]
  clear h h' hd
  go_enter Try.func46, Try.ntmps46
  go_wp2_with fail
  go_ret
  exact ⟨rfl, rfl⟩
theorem sizeT_mem {x : Tow} : ∀ {ts : List Tow}, x ∈ ts → x.e.key.length + x.e.val.length + 32 ≤ sizeT ts
  | y :: r, h => by
    unfold sizeT
    rw [List.map_cons, List.sum_cons]
    rcases List.mem_cons.1 h with rfl | h
    · omega
    · have := sizeT_mem h
      unfold sizeT at this
      omega
theorem PathIn.explicit {bg : Nat} {ts : List Tow} {n : Nat} {kv : Value} {seq L1 s : Nat} {cs : Array Value} (h : PathIn bg ts n kv seq L1 s cs) : ∃ v0 v1 v2 v3 v4 v5 v6 v7 v8 v9 v10 v11 v12 v13 v14 v15 : Value, cs = #[v0, v1, v2, v3, v4, v5, v6, v7, v8, v9, v10, v11, v12, v13, v14, v15, .int .i64 (s : Nat)] := by
  obtain ⟨l⟩ := cs
  have hsz : l.length = 17 := h.size
  match l, hsz with
  | [v0, v1, v2, v3, v4, v5, v6, v7, v8, v9, v10, v11, v12, v13, v14, v15, v16], _ =>
    have e16 : v16 = .int .i64 (s : Nat) := by simpa using h.steps
    subst e16
    exact ⟨v0, v1, v2, v3, v4, v5, v6, v7, v8, v9, v10, v11, v12, v13, v14, v15, rfl⟩
theorem field_steps (v0 v1 v2 v3 v4 v5 v6 v7 v8 v9 v10 v11 v12 v13 v14 v15 x : Value) (w : World) : (Instr.field 67 (.agg #[v0, v1, v2, v3, v4, v5, v6, v7, v8, v9, v10, v11, v12, v13, v14, v15, x]) 2).run Try.prog w = .ok x w := by
  kernel_rfl
section
variable (A : Nat → Prop) (t bg : Nat) (ts : List Tow) (w : World)
theorem len_any (h : Tab A w t bg ts) : Calls Try.prog 13 #[.pointer (some ⟨t, 0, none⟩)] w fun e w' => e = .returned (.int .i64 (ts.length : Nat)) ∧ w' = w := by
  have t1 : w.cell? ⟨t, 1, none⟩ = some (.int .i64 (ts.length : Nat)) := cell_of_row w t 1 _ 56 (0, 0) h.tab
  have HM := hide (made_any A t bg ts w h)
  clear h
  go_enter Try.func13, Try.ntmps13
  go_wp2_with (go_at_call 35; refine HM.out.mono ?_; rintro e w1 ⟨rfl, rfl⟩)
  go_ret
  exact ⟨rfl, rfl⟩
theorem sizeT_any (h : Tab A w t bg ts) : Calls Try.prog 22 #[.pointer (some ⟨t, 0, none⟩)] w fun e w' => e = .returned (.int .i64 (sizeT ts : Nat)) ∧ w' = w := by
  have t1 : w.cell? ⟨t, 2, none⟩ = some (.int .i64 (sizeT ts : Nat)) := cell_of_row w t 2 _ 56 (0, 0) h.tab
  have HM := hide (made_any A t bg ts w h)
  clear h
  go_enter Try.func22, Try.ntmps22
  go_wp2_with (go_at_call 35; refine HM.out.mono ?_; rintro e w1 ⟨rfl, rfl⟩)
  go_ret
  exact ⟨rfl, rfl⟩
variable (ka : Option Addr) (kn kc seq : Nat) (key : List (BitVec 8))
theorem steps_any (h : Tab A w t bg ts) (hk : Bytes w (.slice ka kn kc) key) (hn : ts.length ≤ 1000000) :
    Calls Try.prog 26 #[.pointer (some ⟨t, 0, none⟩), .slice ka kn kc, .int .u64 (seq : Nat)] w fun e w' => e = .returned (.int .i64 (walk 12 (seg ts (place (key, seq) ts) 0) : Nat)) ∧ Below w.heap.size w w' := by
  have HM := hide (made_any A t bg ts w h)
  have HL := hide (look_any A t bg ts ka kn kc seq key w h hk hn)
  clear h hk
  go_enter Try.func26, Try.ntmps26
  go_wp2_with (first | (go_at_call 35; refine HM.out.mono ?_; rintro e w1 ⟨rfl, hw1⟩; subst hw1) | (go_at_call 37; refine HL.out.mono ?_; rintro e w2 ⟨cs, rfl, hp, b2⟩; obtain ⟨v0, v1, v2, v3, v4, v5, v6, v7, v8, v9, v10, v11, v12, v13, v14, v15, rfl⟩ := hp.explicit; have hfd := field_steps v0 v1 v2 v3 v4 v5 v6 v7 v8 v9 v10 v11 v12 v13 v14 v15 (.int .i64 (walk 12 (seg ts (place (key, seq) ts) 0) : Nat)) w2; have B2 := hide b2; clear hp b2))
  go_ret
  exact ⟨rfl, B2.out⟩
theorem height_any (h : Tab A w t bg ts) (hk : Bytes w (.slice ka kn kc) key) (hn : ts.length ≤ 1000000) :
    Calls Try.prog 24 #[.pointer (some ⟨t, 0, none⟩), .slice ka kn kc, .int .u64 (seq : Nat)] w fun e w' => e = .returned (.int .i64 (((atT ts (place (key, seq) ts) (key, seq)).map (·.h)).getD 0 : Nat)) ∧ Below w.heap.size w w' := by
  have HM := hide (made_any A t bg ts w h)
  have HL := hide (look_any A t bg ts ka kn kc seq key w h hk hn)
  have HT := hide h
  have HK := hide hk
  have hpl := place_le (key, seq) ts
  clear h hk
  generalize place (key, seq) ts = n at *
  obtain ⟨hv, HV⟩ : ∃ v, ((atT ts n (key, seq)).map (·.h)).getD 0 = v := ⟨_, rfl⟩
  rw [HV]
  go_enter Try.func24, Try.ntmps24
  go_upto_region 4 with (first | (go_at_call 35; refine HM.out.mono ?_; rintro e w1 ⟨rfl, hw1⟩; subst hw1) | (go_at_call 37; refine HL.out.mono ?_; rintro e w2 ⟨cs, rfl, hp, b2⟩; have PIN := hide hp; have T2 := hide (Turns.of_below b2 (fun _ => False)); clear hp b2) | (go_at_call 38; refine (at_any key w2 (HT.out.quiet T2.out) hpl PIN.out (HK.out.quiet T2.out)).mono ?_; rintro e w3 ⟨rfl, b3⟩; have T3 := hide (T2.out.trans (Turns.of_below b3 (fun _ => False))); clear b3))
  have HF := hide (T3.out.below (Nat.le_refl _) (fun _ x => x.elim))
  cases e : atT ts n (key, seq) with
  | none =>
    rw [show ptrO (Option.map (·.b) (none : Option Tow)) = Value.pointer none from rfl]
    rw [e] at HV
    have hv0 : hv = 0 := HV.symm
    subst hv0
    clear e HV
    go_wp2_with fail
    go_ret
    exact ⟨rfl, HF.out⟩
  | some x =>
    rw [show ptrO (Option.map (·.b) (some x)) = Value.pointer (some ⟨x.b, 0, none⟩) from rfl]
    have hv0 : x.h = hv := by rw [← HV, e]; rfl
    subst hv0
    clear HV
    have hx : ts[n]? = some x := by
      unfold atT at e
      cases e2 : ts[n]? with
      | none => rw [e2] at e; cases e
      | some y =>
        rw [e2] at e
        simp only at e
        split at e
        · cases e; rfl
        · cases e
    obtain ⟨cx, hnx, _⟩ := (HT.out.quiet T3.out).nodes.node (n + 1) (by have := (List.getElem?_eq_some_iff.1 hx).1; omega)
    rw [nodeB_at hx, nodeH_at hx] at hnx
    have x4 : w3.cell? ⟨x.b, 4, none⟩ = some (.int .i64 (x.h : Nat)) := (cell_of_row w3 x.b 4 cx 64 (0, 0) hnx.heap).trans hnx.height
    clear hnx hx e
    go_wp2_with fail
    go_ret
    exact ⟨rfl, HF.out⟩
theorem seek_any (h : Tab A w t bg ts) (hk : Bytes w (.slice ka kn kc) key) (hn : ts.length ≤ 1000000) (hs : sizeT ts ≤ 1000000) (R : Ending → World → Prop)
    (H0 : ts[place (key, seq) ts]? = none → ∀ w', Below w.heap.size w w' → R (.returned (.tuple #[.agg #[.slice none 0 0, .int .u64 0, .int .i64 0, .slice none 0 0], .bool false])) w')
    (H1 : ∀ x, ts[place (key, seq) ts]? = some x → ∀ w' ka' kc' va' vc', Bytes w' (.slice ka' x.e.key.length kc') x.e.key → Bytes w' (.slice va' x.e.val.length vc') x.e.val → Below w.heap.size w w' → R (.returned (.tuple #[.agg #[.slice ka' x.e.key.length kc', .int .u64 (x.e.seq : Nat), .int .i64 x.e.kind, .slice va' x.e.val.length vc'], .bool true])) w') :
    Calls Try.prog 10 #[.pointer (some ⟨t, 0, none⟩), .slice ka kn kc, .int .u64 (seq : Nat)] w R := by
  have T0 := hide ((Turns.refl (fun _ => False) w).alloc (.cells #[.slice none 0 0, .int .u64 0, .int .i64 0, .slice none 0 0] 29))
  have HT := hide (h.quiet T0.out)
  have HK := hide (hk.quiet T0.out)
  have HR := hide (heap_alloc_new w (.cells #[.slice none 0 0, .int .u64 0, .int .i64 0, .slice none 0 0] 29))
  have HM := hide (made_any A t bg ts _ HT.out)
  have HL := hide (look_any A t bg ts ka kn kc seq key _ HT.out HK.out hn)
  have hpl := place_le (key, seq) ts
  have HH0 := hide H0
  have HH1 := hide H1
  clear h hk H0 H1
  generalize place (key, seq) ts = n at *
  go_enter Try.func10, Try.ntmps10
  go_upto_region 1 with (fail)
  generalize w.alloc (.cells #[.slice none 0 0, .int .u64 0, .int .i64 0, .slice none 0 0] 29) = w0 at *
  generalize hg0 : w.heap.size = g at *
  go_upto_region 4 with (first | (go_at_call 35; refine HM.out.mono ?_; rintro e w1 ⟨rfl, hw1⟩; subst hw1) | (go_at_call 37; refine HL.out.mono ?_; rintro e w2 ⟨cs, rfl, hp, b2⟩; have PIN := hide hp; have T2 := hide (Turns.of_below b2 (fun _ => False)); clear hp b2) | (go_at_call 41; refine (behind_any w2 (HT.out.quiet T2.out) hpl PIN.out).mono ?_; rintro e w3 ⟨rfl, b3⟩; have T3 := hide (T2.out.trans (Turns.of_below b3 (fun _ => False))); clear b3))
  have HR3 := hide (T3.out.heap HR.out (fun x => x))
  cases hx : ts[n]? with
  | none =>
    rw [show ptrO (Option.map (·.b) (none : Option Tow)) = Value.pointer none from rfl]
    have HX := hide hx
    clear hx
    have q0 := cell_of_row w3 g 0 _ 29 (0, 0) HR3.out
    have q1 := cell_of_row w3 g 1 _ 29 (0, 0) HR3.out
    have q2 := cell_of_row w3 g 2 _ 29 (0, 0) HR3.out
    have q3 := cell_of_row w3 g 3 _ 29 (0, 0) HR3.out
    have f0 := frozen_of_row w3 g 0 _ 29 HR3.out
    have f1 := frozen_of_row w3 g 1 _ 29 HR3.out
    have f2 := frozen_of_row w3 g 2 _ 29 HR3.out
    have f3 := frozen_of_row w3 g 3 _ 29 HR3.out
    go_wp2_with fail
    have k3 := (((((Tick.refl HR3.out).set 0 (.slice none 0 0)).set 1 (.int .u64 0)).set 2 (.int .i64 0)).set 3 (.slice none 0 0))
    refine bodyPost_ret (v := .tuple #[.agg #[.slice none 0 0, .int .u64 0, .int .i64 0, .slice none 0 0], .bool false]) ?_ rfl ?_
    · exact results_cell_tmp Try.results10 _ _ _ _ _ _ _ _ rfl rfl k3.1 Try.underlying29 rfl info29
    · refine HH0.out HX.out _ ?_
      exact ((T0.out.trans T3.out).andThen (Turns.of_tick k3) (fun k hk e => by omega)).below (by omega) (fun _ x => x.elim)
  | some x =>
    rw [show ptrO (Option.map (·.b) (some x)) = Value.pointer (some ⟨x.b, 0, none⟩) from rfl]
    have HX := hide hx
    have TB := hide (HT.out.quiet T3.out)
    obtain ⟨cx, hnx, hex⟩ := TB.out.nodes.node (n + 1) (by have := (List.getElem?_eq_some_iff.1 hx).1; omega)
    have hex := hex n x rfl hx
    rw [nodeB_at hx] at hnx
    have x0 : w3.cell? ⟨x.b, 0, none⟩ = some (.slice x.ka x.e.key.length x.kc) := (cell_of_row w3 x.b 0 cx 64 (0, 0) hnx.heap).trans hex.1
    have x1 : w3.cell? ⟨x.b, 1, none⟩ = some (.int .u64 (x.e.seq : Nat)) := (cell_of_row w3 x.b 1 cx 64 (0, 0) hnx.heap).trans hex.2.1
    have x2 : w3.cell? ⟨x.b, 2, none⟩ = some (.int .i64 x.e.kind) := (cell_of_row w3 x.b 2 cx 64 (0, 0) hnx.heap).trans hex.2.2.1
    have x3 : w3.cell? ⟨x.b, 3, none⟩ = some (.slice x.va x.e.val.length x.vc) := (cell_of_row w3 x.b 3 cx 64 (0, 0) hnx.heap).trans hex.2.2.2
    have hmem := List.mem_of_getElem? hx
    have hle := sizeT_mem hmem
    have HCL := hide (cloneE_any x.ka x.va x.e.key.length x.kc x.e.val.length x.vc x.e.seq x.e.kind x.e.key x.e.val w3 (TB.out.keys x hmem).1 (TB.out.keys x hmem).2 (by omega) (by omega))
    clear hnx hex hx hmem
    go_wp2_with (go_at_call 40; refine HCL.out.mono ?_; rintro e w4 ⟨ka', kc', va', vc', rfl, hk4, hv4, hkb, hvb, b4⟩; have T4 := hide (T3.out.trans (Turns.of_below b4 (fun _ => False))); have HK4 := hide hk4; have HV4 := hide hv4; have HKB := hide hkb; have HVB := hide hvb; have hs34 := T3.out.size; have HR4 := hide (T4.out.heap HR.out (fun x => x)); have q0 := cell_of_row w4 g 0 _ 29 (0, 0) HR4.out; have q1 := cell_of_row w4 g 1 _ 29 (0, 0) HR4.out; have q2 := cell_of_row w4 g 2 _ 29 (0, 0) HR4.out; have q3 := cell_of_row w4 g 3 _ 29 (0, 0) HR4.out; have f0 := frozen_of_row w4 g 0 _ 29 HR4.out; have f1 := frozen_of_row w4 g 1 _ 29 HR4.out; have f2 := frozen_of_row w4 g 2 _ 29 HR4.out; have f3 := frozen_of_row w4 g 3 _ 29 HR4.out; clear hk4 hv4 hkb hvb b4 x0 x1 x2 x3)
    have k3 := (((((Tick.refl HR4.out).set 0 (.slice ka' x.e.key.length kc')).set 1 (.int .u64 (x.e.seq : Nat))).set 2 (.int .i64 x.e.kind)).set 3 (.slice va' x.e.val.length vc'))
    have u3 := Turns.of_tick k3
    have hgl : g < w1.heap.size := lt_of_heap HR.out
    refine bodyPost_ret (v := .tuple #[.agg #[.slice ka' x.e.key.length kc', .int .u64 (x.e.seq : Nat), .int .i64 x.e.kind, .slice va' x.e.val.length vc'], .bool true]) ?_ rfl ?_
    · exact results_cell_tmp Try.results10 _ _ _ _ _ _ _ _ rfl rfl k3.1 Try.underlying29 rfl info29
    · refine HH1.out x HX.out _ ka' kc' va' vc' (bytes_keep HK4.out u3 fun a e => ?_) (bytes_keep HV4.out u3 fun a e => ?_) ?_
      · have := (HKB.out a e).1; show ¬ a.block = g; omega
      · have := (HVB.out a e).1; show ¬ a.block = g; omega
      · exact ((T0.out.trans T4.out).andThen u3 (fun k hk e => by omega)).below (by omega) (fun _ x => x.elim)
end
end Go.Proofs.Ytkeglaplckfllaa
