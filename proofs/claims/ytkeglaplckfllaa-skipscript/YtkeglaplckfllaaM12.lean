import Derived.Test.YtkeglaplckfllaaM11
import Derived.RangeFuncNested
import Derived.RangeFuncBound
import Derived.RangeFuncCalls
import Derived.RangeFuncLeaves
import Derived.Shelf.Abstract
import Derived.Shelf.RegionOpen
import Derived.WalkKit
import Derived.OwnWalkIn
import Derived.TacticsInMore
import Derived.LoopNIn
import Derived.LoopIn
/-
  The entries from a tower on, one by one.
-/
namespace Go.Proofs.Ytkeglaplckfllaa
open Go.RowKit Go.Shelf
attribute [local go_sem] Oper.semAt_some
/-- The places from p on. -/
def xsF (ts : List Tow) (p : Nat) : List (Fin ts.length) := (List.finRange ts.length).drop p
theorem xsF_cons (ts : List Tow) (p : Nat) (h : p < ts.length) : xsF ts p = ⟨p, h⟩ :: xsF ts (p + 1) := by
  unfold xsF
  rw [List.drop_eq_getElem_cons (by simpa using h)]
  simp
theorem xsF_nil (ts : List Tow) : xsF ts ts.length = [] := by
  unfold xsF
  exact List.drop_of_length_le (by simp)
theorem xsF_length (ts : List Tow) (p : Nat) : (xsF ts p).length = ts.length - p := by
  unfold xsF
  simp
def leftV (ts : List Tow) : Value → Nat
  | .pointer (some a) => ts.length - ts.findIdx (fun x => x.b == a.block)
  | _ => 0
theorem leftV_at {A : Nat → Prop} {w : World} {t bg : Nat} {ts : List Tow} (h : Tab A w t bg ts) {j : Nat} {x : Tow} (hj : ts[j]? = some x) : leftV ts (.pointer (some ⟨x.b, 0, none⟩)) = ts.length - j := by
  obtain ⟨hlt, hx⟩ := List.getElem?_eq_some_iff.1 hj
  show ts.length - ts.findIdx (fun y => y.b == x.b) = ts.length - j
  congr 1
  refine List.findIdx_eq (h := hlt) |>.2 ⟨by simp [hx], fun i hi => ?_⟩
  have hil : i < ts.length := by omega
  have h1 := h.nodes.inj (i + 1) (j + 1) (by omega) (by omega)
  rw [nodeB_at (List.getElem?_eq_getElem hil), nodeB_at hj] at h1
  have : ¬ ts[i].b = x.b := fun e => by have := h1 e; omega
  simpa using this
theorem onward_any (q : Option Addr) (w : World) : Calls Try.prog 48 #[.pointer q] w fun e w' => e = .returned (.func (.func 58) #[] #[.pointer (some ⟨w.heap.size, 0, none⟩)]) ∧ w' = w.alloc (.cells #[.pointer q] 54) := by
  go_enter Try.func48, Try.ntmps48
  go_wp2_with fail
  go_ret
  exact ⟨rfl, rfl⟩
set_option maxRecDepth 100000 in
set_option maxHeartbeats 4000000 in
theorem onward1_in (n l Bn n₀ p BJ : Nat) (hn : 1 ≤ n) (A : Nat → Prop) (t bg : Nat) (ts : List Tow) (J Jx : List (Fin ts.length) → World → Prop)
    (hJ : AbidesFrom BJ J)
    (hY : ∀ pre (x : Fin ts.length) W, J pre W → pre.length < ts.length - p → YieldAt Fence.wide (n - 1) Try.prog l #[.agg #[.slice ts[x].ka ts[x].e.key.length ts[x].kc, .int .u64 (ts[x].e.seq : Nat), .int .i64 ts[x].e.kind, .slice ts[x].va ts[x].e.val.length ts[x].vc]] W fun e W' =>
      (e = .returned (.bool true) ∧ J (pre ++ [x]) W' ∧ Below n₀ W W') ∨ (e = .returned (.bool false) ∧ Jx (pre ++ [x]) W'))
    (W : World) (hBn : W.cell? ⟨Bn, 0, none⟩ = some (ptrO ((ts[p]?).map (·.b)))) (hp : p ≤ ts.length) (hA : ∀ k, A k → k < n₀) (hT : Tab A W t bg ts) (h0 : J [] W) :
    CallsIn Fence.wide n Try.prog 58 #[.func (.yield l) #[] #[], .pointer (some ⟨Bn, 0, none⟩)] W fun e W' => (∃ v, e = .returned v) ∧
      ((∃ ys, ys = xsF ts p ∧ J ys W') ∨ (∃ pre, pre <+: xsF ts p ∧ Jx pre W')) := by
  obtain ⟨v0, hv0⟩ : ∃ v, ptrO ((ts[p]?).map (·.b)) = v := ⟨_, rfl⟩
  rw [hv0] at hBn
  have HV0 := hide hv0.symm
  have HT := hide hT
  have HY := hide hY
  have HJ0 := hide h0
  clear hv0 hT hY h0
  refine callsIn_of_wp Try.func58 rfl trivial ?_ rfl
  simp only [Try.ntmps58, List.size_toArray, List.length_cons, List.length_nil, Nat.reduceAdd, Nat.reduceSub, Array.replicate_succ, Array.replicate_zero, List.push_toArray, List.append_toArray, List.nil_append, List.cons_append]
  gi_wp2
  gi_loopw [3] (fun q wr => ∃ (pre : List (Fin ts.length)) (j : Nat), q = ptrO ((ts[j]?).map (·.b)) ∧ j ≤ ts.length ∧ xsF ts p = pre ++ xsF ts j ∧ Tab A wr t bg ts ∧ J pre wr) (fun q _ => leftV ts q)
  case atStart => exact ⟨[], p, HV0.out, hp, rfl, HT.out, HJ0.out⟩
  case round =>
    obtain ⟨pre, j, rfl, hj, hx, hT, hJs⟩ := hrel
    have TB := hide hT
    have HX := hide hx
    have HJS := hide hJs
    clear hT hx hJs
    cases e : ts[j]? with
    | none =>
      have hjl : j = ts.length := by
        have := List.getElem?_eq_none_iff.1 e
        omega
      have HJL := hide hjl
      rw [show ptrO (Option.map (·.b) (none : Option Tow)) = Value.pointer none from rfl]
      clear e hjl
      gi_wp2
      go_end0
      have h1 := HX.out
      rw [HJL.out, xsF_nil, List.append_nil] at h1
      exact ⟨⟨_, rfl⟩, .inl ⟨pre, h1.symm, HJS.out⟩⟩
    | some x =>
      obtain ⟨hjl, hxe⟩ := List.getElem?_eq_some_iff.1 e
      obtain ⟨cx, hnx, hex⟩ := TB.out.nodes.node (j + 1) (by omega)
      have hex := hex j x rfl e
      rw [nodeB_at e] at hnx
      have x0 : wr.cell? ⟨x.b, 0, none⟩ = some (.slice x.ka x.e.key.length x.kc) := (cell_of_row wr x.b 0 cx 64 (0, 0) hnx.heap).trans hex.1
      have x1 : wr.cell? ⟨x.b, 1, none⟩ = some (.int .u64 (x.e.seq : Nat)) := (cell_of_row wr x.b 1 cx 64 (0, 0) hnx.heap).trans hex.2.1
      have x2 : wr.cell? ⟨x.b, 2, none⟩ = some (.int .i64 x.e.kind) := (cell_of_row wr x.b 2 cx 64 (0, 0) hnx.heap).trans hex.2.2.1
      have x3 : wr.cell? ⟨x.b, 3, none⟩ = some (.slice x.va x.e.val.length x.vc) := (cell_of_row wr x.b 3 cx 64 (0, 0) hnx.heap).trans hex.2.2.2
      have hlen : pre.length < ts.length - p := by
        have := congrArg List.length HX.out
        rw [xsF_length, List.length_append, xsF_length] at this
        omega
      obtain ⟨fn, tmps, assign, body, hy, hR⟩ := HY.out pre ⟨j, hjl⟩ wr HJS.out hlen
      rw [show ts[(⟨j, hjl⟩ : Fin ts.length)] = x from hxe] at hy
      have HR := hide hR
      have HE := hide e
      have HXE := hide hxe
      rw [show ptrO (Option.map (·.b) (some x)) = Value.pointer (some ⟨x.b, 0, none⟩) from rfl]
      clear hnx hex e hR hxe
      gi_wp2
      refine HR.out.mono ?_
      rintro e W3 (⟨rfl, hJ3, hk3⟩ | ⟨rfl, hJx3⟩)
      · have T3 := hide (TB.out.keep (S := fun k => n₀ ≤ k) ⟨hk3.os, hk3.tape, hk3.output, hk3.size, fun k _ hk => hk3.block k (by omega)⟩ fun k _ ha => by have := hA k ha; omega)
        have HJ3 := hide hJ3
        obtain ⟨cy, hny, _⟩ := T3.out.nodes.node (j + 1) (by omega)
        rw [nodeB_at HE.out, nodeH_at HE.out] at hny
        have hhx := T3.out.tall x (List.mem_of_getElem? HE.out)
        have HNY := hide hny
        have hz := nxt_zero T3.out (j + 1)
        have xl : W3.cell? ⟨x.b, 5, none⟩ = some (ptrO ((ts[j + 1]?).map (·.b))) := by
          rw [← hz]
          exact (cell_of_row W3 x.b 5 cy 64 (0, 0) hny.heap).trans (hny.room 0 (by omega))
        have i1 : (0 : Int) < x.h := by omega
        have hh12 := hhx.2
        obtain ⟨vn, hvn⟩ : ∃ v, ptrO ((ts[j + 1]?).map (·.b)) = v := ⟨_, rfl⟩
        rw [hvn] at xl
        have HVN := hide hvn.symm
        clear hny hz hk3 hJ3 x0 x1 x2 x3 hy hvn
        gi_wp2_with (refine ⟨trivial, ?_⟩; gi_at_call 52; refine (callsIn_wide.2 (levels_any _ _ _ _ _ HNY.out hh12)).mono ?_; rintro e w4 ⟨rfl, m4, rfl⟩)
        go_roundw
        case rel =>
          refine ⟨pre ++ [⟨j, hjl⟩], j + 1, HVN.out, by omega, by rw [HX.out, xsF_cons ts j hjl, List.append_assoc]; rfl, T3.out.quiet ((Turns.refl _ W3).drewN m4), hJ _ W3 _ none HJ3.out ⟨rfl, rfl, rfl, Nat.le_refl _, fun _ _ _ => rfl⟩ (fun r e => by cases e)⟩
        case measure =>
          rw [leftV_at TB.out HE.out, HVN.out]
          cases e2 : ts[j + 1]? with
          | none => show 0 < _; omega
          | some y =>
            show leftV ts (.pointer (some ⟨y.b, 0, none⟩)) < _
            rw [leftV_at TB.out e2]
            omega
      · gi_wp2
        refine bodyPost_ret (results_none rfl _ _ _) rfl ?_
        exact ⟨⟨_, rfl⟩, .inr ⟨pre ++ [⟨j, hjl⟩], ⟨xsF ts (j + 1), by rw [HX.out, xsF_cons ts j hjl, List.append_assoc]; rfl⟩, hJx3⟩⟩
/-- What 'onward' hands back goes through all entries from a place on, or stops where it is told to. -/
theorem onward_stops (n Bn n₀ p : Nat) (hn : 1 ≤ n) (A : Nat → Prop) (t bg : Nat) (ts : List Tow) (w : World) (hBn : Bn < w.heap.size) (hc : w.cell? ⟨Bn, 0, none⟩ = some (ptrO ((ts[p]?).map (·.b)))) (hp : p ≤ ts.length) (hA : ∀ k, A k → k < n₀) (hT : Tab A w t bg ts) :
    SeqStopsK Fence.wide n Try.prog 58 #[.pointer (some ⟨Bn, 0, none⟩)] (fun x : Fin ts.length => #[Value.agg #[.slice ts[x].ka ts[x].e.key.length ts[x].kc, .int .u64 (ts[x].e.seq : Nat), .int .i64 ts[x].e.kind, .slice ts[x].va ts[x].e.val.length ts[x].vc]]) (Below n₀) (fun ys => ys = xsF ts p) (fun pre => pre <+: xsF ts p) (ts.length - p) w := fun l J Jx W hW hJ _ hY h0 =>
  onward1_in n l Bn n₀ p W.heap.size hn A t bg ts J Jx hJ hY W ((hW.cell (p := ⟨Bn, 0, none⟩) hBn).trans hc) hp hA (hT.quiet (Turns.of_below hW _)) h0
end Go.Proofs.Ytkeglaplckfllaa

/-
  One entry more in the loop's own memory.
-/
namespace Go.Proofs.Ytkeglaplckfllaa
open Go.RowKit Go.Shelf
theorem step_append_runIn {F : Fence} {n : Nat} {P : Program} {ops : Array Oper} {o : Oper} {a : Act} {w : World} {K : Act → World → Prop} {Q : Exit → Act → World → Prop} {E : Prop} (hgd : o.guard = none) (s x : Operand) (t : TypeId)
    (ho : o.op = .call { callee := .builtin .append, args := #[s, x], argTypes := #[t, t] }) (vs vx : Value) (hs : a.eval s = vs) (hx : a.eval x = vx) (v : Value) (w' : World)
    (hr : (Builtin.append_ #[t, t] o.type #[vs, vx]).run P w = .ok v w') (d : Nat) (hd : o.dst = some d) (h : K (a.put (some d) v) w') :
    if Region.wanted o (yielded ops a.tmps) = true then Oper.wpIn F n P o a w K Q else E := by
  rw [if_pos (by simp [Region.wanted, hgd])]
  unfold Oper.wpIn
  refine ⟨?_, ?_⟩
  · simp [Oper.about, ho, resolve, Target.leads, Sem.run_pure]
  · rw [Oper.semAt_plain F _ _ (by rw [ho]; intro c hc'; cases hc')]
    simp [execOp, ho, resolve, invoke, builtin, hs, hx, hr, Result.andThen]
    rw [← hd] at h
    exact h
/-- What has come so far, in the loop's own memory. -/
def Got (N0 bl bn : Nat) (n : Int) (w : World) (R : List Tow) (W : World) : Prop :=
  ∃ v, (W.heap[bl]? = some (.cells #[v] 33 (0, 0)) ∧ W.heap[bn]? = some (.cells #[.int .i64 n] 3 (0, 0)) ∧ ERow W (bl + 1) v R ∧ Shown W (bl + 1) R ∧ ∀ x, x ∈ R → ∀ q, x.bytesIn q → ¬ inRow v q) ∧ Below N0 w W
theorem body_end {N0 : Nat} {n : Int} {w W W2 W4 : World} {R : List Tow} {v v' : Value} {o : Obj} {y : Tow} {ka' va' : Option Addr} {kc' vc' g' n' c' : Nat} (g1 : W.heap[N0 + 1]? = some (.cells #[v] 33 (0, 0))) (g2 : W.heap[N0]? = some (.cells #[.int .i64 n] 3 (0, 0))) (g3 : ERow W (N0 + 1 + 1) v R) (g4 : Shown W (N0 + 1 + 1) R) (g5 : ∀ x, x ∈ R → ∀ q, x.bytesIn q → ¬ inRow v q) (g6 : Below N0 w W)
    (t6 : Turns (fun _ => False) W W2) (hk : Bytes W2 (.slice ka' y.e.key.length kc') y.e.key) (hv : Bytes W2 (.slice va' y.e.val.length vc') y.e.val) (hkb : ∀ x, ka' = some x → W.heap.size ≤ x.block ∧ x.block < W2.heap.size) (hvb : ∀ x, va' = some x → W.heap.size ≤ x.block ∧ x.block < W2.heap.size)
    (hv' : v' = .slice (some ⟨g', 0, none⟩) n' c') (hrow : ERow W4 (N0 + 1 + 1) v' (R ++ [⟨0, ka', kc', va', vc', y.e, 0⟩])) (t4 : Turns (inRow v) (W2.alloc o) W4) (hin : inRow v g' ∨ g' = (W2.alloc o).heap.size) :
    W4.cell? ⟨N0 + 1, 0, none⟩ = some v ∧ W4.frozen? ⟨N0 + 1, 0, none⟩ = false ∧ (∀ B, KeepsFrom B W (W4.setCell ⟨N0 + 1, 0, none⟩ v')) ∧ Below N0 W (W4.setCell ⟨N0 + 1, 0, none⟩ v') ∧ Got N0 (N0 + 1) N0 n w (R ++ [⟨0, ka', kc', va', vc', y.e, 0⟩]) (W4.setCell ⟨N0 + 1, 0, none⟩ v') := by
  have hrowb : ∀ {k}, inRow v k → N0 + 1 + 1 ≤ k ∧ k < W.heap.size := fun hk => g3.row hk
  have ha : (W2.alloc o).heap.size = W2.heap.size + 1 := by simp
  have ta : Turns (fun _ => False) W (W2.alloc o) := t6.alloc o
  have hWs := ta.size
  have h62 := t6.size
  have hbl : N0 + 1 < W.heap.size := lt_of_heap g1
  have h41 : W4.heap[N0 + 1]? = some (.cells #[v] 33 (0, 0)) := t4.heap (ta.heap g1 (fun x => x)) (fun h => by have := (hrowb h).1; omega)
  have h42 : W4.heap[N0]? = some (.cells #[.int .i64 n] 3 (0, 0)) := t4.heap (ta.heap g2 (fun x => x)) (fun h => by have := (hrowb h).1; omega)
  have tk := (Tick.refl h41).set 0 v'
  have tt := Turns.of_tick tk
  have h44 := t4.size
  have h45 := tt.size
  have hall : Turns (fun k => N0 ≤ k) W (W4.setCell ⟨N0 + 1, 0, none⟩ v') := ((ta.mono fun _ _ x => x.elim).trans (t4.mono fun k _ h => by have := (hrowb h).1; show N0 ≤ k; omega)).trans (tt.mono fun k _ h => by show N0 ≤ k; omega)
  have hbw : Below N0 W (W4.setCell ⟨N0 + 1, 0, none⟩ v') := hall.below (by omega) (fun k h => h)
  have hcellsrow : ∀ {k}, inRow v k → ∃ cs, W.heap[k]? = some (.cells cs 29 (0, 0)) := fun {k} hk => by
    obtain ⟨m, d, e⟩ := hk
    rcases g3 with ⟨_, rfl⟩ | ⟨g, c, q, rfl, _, _, _, cs, h1, _⟩
    · cases e
    · cases e; exact ⟨cs, h1⟩
  have hg' : N0 + 1 + 1 ≤ g' := by
    rcases hin with h | h
    · exact (hrowb h).1
    · omega
  refine ⟨(cell_of_row W4 _ 0 _ 33 (0, 0) h41), frozen_of_row W4 _ 0 _ 33 h41, fun B => ⟨by omega, fun k ob _ hk ho => ?_⟩, hbw, v', ⟨?_, ?_, ?_, ?_, ?_⟩, g6.trans hbw⟩
  · have hks := lt_of_heap hk
    refine tt.heap (t4.heap (ta.heap hk (fun x => x)) fun h => ?_) fun h => ?_
    · obtain ⟨cs, h1⟩ := hcellsrow h
      rw [hk] at h1
      cases h1
      cases ho
    · have : k = N0 + 1 := h
      rw [this, g1] at hk
      cases hk
      cases ho
  · exact tk.1
  · exact tt.heap h42 (by show ¬ N0 = N0 + 1; omega)
  · refine hrow.keep tt fun k hk e => ?_
    rw [hv'] at hk
    obtain ⟨m, d, e2⟩ := hk
    cases e2
    have : g' = N0 + 1 := e
    omega
  · intro x hx
    rcases List.mem_append.1 hx with hx | hx
    · have h := g4 x hx
      refine ⟨?_, ?_, fun q hq => ⟨(h.2.2 q hq).1, by have := (h.2.2 q hq).2; omega⟩⟩
      · exact bytes_keep (bytes_keep (bytes_keep h.1 ta fun _ _ x => x) t4 fun a e => g5 x hx _ (.inl ⟨a, e, rfl⟩)) tt fun a e e2 => by have := (h.2.2 a.block (.inl ⟨a, e, rfl⟩)).1; have e2 : a.block = N0 + 1 := e2; omega
      · exact bytes_keep (bytes_keep (bytes_keep h.2.1 ta fun _ _ x => x) t4 fun a e => g5 x hx _ (.inr ⟨a, e, rfl⟩)) tt fun a e e2 => by have := (h.2.2 a.block (.inr ⟨a, e, rfl⟩)).1; have e2 : a.block = N0 + 1 := e2; omega
    · obtain rfl := List.mem_singleton.1 hx
      have tal : Turns (fun _ => False) W2 (W2.alloc o) := (Turns.refl _ W2).alloc o
      refine ⟨?_, ?_, fun q hq => ?_⟩
      · exact bytes_keep (bytes_keep (bytes_keep hk tal fun _ _ x => x) t4 fun a e h => by have h1 := (hkb a e).1; have h2 := (hrowb h).2; omega) tt fun a e e2 => by have := (hkb a e).1; have e2 : a.block = N0 + 1 := e2; omega
      · exact bytes_keep (bytes_keep (bytes_keep hv tal fun _ _ x => x) t4 fun a e h => by have h1 := (hvb a e).1; have h2 := (hrowb h).2; omega) tt fun a e e2 => by have := (hvb a e).1; have e2 : a.block = N0 + 1 := e2; omega
      · rcases hq with ⟨a, e, rfl⟩ | ⟨a, e, rfl⟩
        · have := hkb a e; exact ⟨by omega, by omega⟩
        · have := hvb a e; exact ⟨by omega, by omega⟩
  · intro x hx q hq hr
    rw [hv'] at hr
    obtain ⟨m, d, e2⟩ := hr
    have hqg : q = g' := by cases e2; rfl
    rcases List.mem_append.1 hx with hx | hx
    · rcases hin with h | h
      · exact g5 x hx q hq (hqg ▸ h)
      · have := ((g4 x hx).2.2 q hq).2; omega
    · obtain rfl := List.mem_singleton.1 hx
      have hb : W.heap.size ≤ q ∧ q < W2.heap.size := by
        rcases hq with ⟨a, e, rfl⟩ | ⟨a, e, rfl⟩
        · exact hkb a e
        · exact hvb a e
      rcases hin with h | h
      · have := (hrowb h).2; omega
      · omega
end Go.Proofs.Ytkeglaplckfllaa

/-
  From: the first entries from a key on.
-/
namespace Go.Proofs.Ytkeglaplckfllaa
open Go.RowKit Go.Shelf
attribute [local go_sem] Oper.semAt_some
theorem heap_own {W W' : World} {row : Option Nat} (hg : W.grownBy W' row) (hr : ∀ r, row = some r → ∃ o : Obj, W.heap[r]? = some o ∧ o.isCells = false) {b : Nat} {cs : Array Value} {t : TypeId} {fr : Nat × Nat} (h : W.heap[b]? = some (.cells cs t fr)) : W'.heap[b]? = some (.cells cs t fr) := by
  refine (hg.block b (lt_of_heap h) fun e => ?_).trans h
  obtain ⟨o, h1, h2⟩ := hr b e.symm
  rw [h] at h1
  cases h1
  cases h2
theorem bytes_own {W W' : World} {row : Option Nat} (hg : W.grownBy W' row) (hr : ∀ r, row = some r → ∃ o : Obj, W.heap[r]? = some o ∧ o.isCells = false) {v : Value} {bs : List (BitVec 8)} (h : Bytes W v bs) : Bytes W' v bs := by
  obtain ⟨a, c, rfl, h⟩ := h
  exact ⟨a, c, rfl, fun k hk => let ⟨b, off, h1, h2⟩ := h k hk; ⟨b, off, h1, cell_kept h2 hg hr⟩⟩
theorem ptrO_is (o : Option Nat) : ∃ q, ptrO o = .pointer q := by
  cases o with
  | none => exact ⟨_, rfl⟩
  | some b => exact ⟨_, rfl⟩
def eOf (ts : List Tow) (j : Fin ts.length) : Ent := ts[j].e
theorem map_xsF (ts : List Tow) (p : Nat) : (xsF ts p).map (eOf ts) = (ts.drop p).map (·.e) := by
  unfold xsF
  rw [List.map_drop, List.map_drop]
  congr 1
  refine List.ext_getElem (by simp) fun i h1 h2 => ?_
  simp [eOf]
theorem ERow.le {w : World} {B B' : Nat} {v : Value} {R : List Tow} (h : ERow w B v R) (hB : B' ≤ B) : ERow w B' v R := by
  rcases h with h | ⟨g, c, n, h1, h2, h3, h4, h5⟩
  · exact .inl h
  · exact .inr ⟨g, c, n, h1, h2, h3, Nat.le_trans hB h4, h5⟩
theorem Shown.le {w : World} {B B' : Nat} {R : List Tow} (h : Shown w B R) (hB : B' ≤ B) : Shown w B' R := fun x hx => ⟨(h x hx).1, (h x hx).2.1, fun q hq => ⟨Nat.le_trans hB ((h x hx).2.2 q hq).1, ((h x hx).2.2 q hq).2⟩⟩
theorem Got.own {N0 bl bn : Nat} {n : Int} {w : World} {R : List Tow} {B : Nat} (h1 : N0 ≤ w.heap.size) (hB : N0 ≤ B) {W W' : World} {row : Option Nat} (h : Got N0 bl bn n w R W) (hg : W.grownBy W' row) (hr : ∀ r, row = some r → B ≤ r ∧ ∃ o : Obj, W.heap[r]? = some o ∧ o.isCells = false) : Got N0 bl bn n w R W' := by
  obtain ⟨v, ⟨a1, a2, a3, a4, a5⟩, a6⟩ := h
  have hr' := fun r e => (hr r e).2
  refine ⟨v, ⟨heap_own hg hr' a1, heap_own hg hr' a2, ?_, fun x hx => ?_, a5⟩, ?_⟩
  · rcases a3 with a3 | ⟨g, c, m, b1, b2, b3, b4, cs, b5, b6, b7⟩
    · exact .inl a3
    · exact .inr ⟨g, c, m, b1, b2, b3, b4, cs, heap_own hg hr' b5, b6, b7⟩
  · have := a4 x hx
    exact ⟨bytes_own hg hr' this.1, bytes_own hg hr' this.2.1, fun q hq => ⟨(this.2.2 q hq).1, Nat.lt_of_lt_of_le (this.2.2 q hq).2 hg.size⟩⟩
  · exact ownFrom_below (β := Unit) h1 hB () W W' row a6 hg hr
/-- The loop was left. -/
def Left (ts : List Tow) (n : Int) (w : World) (c : Code) (pre : List (Fin ts.length)) (W : World) : Prop := ∃ pre' x R, c = .exit 0 ∧ pre = pre' ++ [x] ∧ Got w.heap.size (w.heap.size + 1) w.heap.size n w R W ∧ R.map (·.e) = pre'.map (eOf ts) ∧ (pre'.length : Int) ≤ max n 0 ∧ n ≤ (pre'.length : Int)
set_option maxRecDepth 100000 in
set_option maxHeartbeats 4000000 in
theorem from_any (A : Nat → Prop) (t bg : Nat) (ts : List Tow) (w : World) (ka : Option Addr) (kn kc : Nat) (key : List (BitVec 8)) (n : Int) (h : Tab A w t bg ts) (hk : Bytes w (.slice ka kn kc) key) (hn : ts.length ≤ 100000) (hs : sizeT ts ≤ 900000) :
    Calls Try.prog 29 #[.pointer (some ⟨t, 0, none⟩), .slice ka kn kc, .int .i64 n] w fun e w' => ∃ v R, e = .returned v ∧ ERow w' w.heap.size v R ∧ Shown w' w.heap.size R ∧ R.map (·.e) = ((ts.drop (place (key, 18446744073709551615) ts)).map (·.e)).take n.toNat ∧ Below w.heap.size w w' := by
  have T0 := hide (((Turns.refl (fun _ => False) w).alloc (.cells #[.int .i64 n] 3)).alloc (.cells #[.slice none 0 0] 33))
  have TA := hide ((Turns.refl (fun _ => False) w).alloc (.cells #[.int .i64 n] 3))
  have HTW := hide (h.mono (A' := fun k => A k ∧ k < w.heap.size) fun k hk ha => ⟨ha, hk⟩)
  have HT := hide (HTW.out.quiet T0.out)
  have HM := hide (made_any _ t bg ts _ (HTW.out.quiet TA.out))
  have HL := hide (look_any _ t bg ts ka kn kc 18446744073709551615 key _ HT.out (hk.quiet T0.out) (by omega))
  have hpl := place_le (key, 18446744073709551615) ts
  have r0 := heap_keep ((Below.refl _ (w.alloc (.cells #[.int .i64 n] 3))).alloc (Nat.le_refl _) (.cells #[.slice none 0 0] 33)) (heap_alloc_new w (.cells #[.int .i64 n] 3))
  have r1 := heap_alloc_new (w.alloc (.cells #[.int .i64 n] 3)) (.cells #[.slice none 0 0] 33)
  rw [show (w.alloc (.cells #[.int .i64 n] 3)).heap.size = w.heap.size + 1 by simp] at r1
  have R0 := hide r0
  have R1 := hide r1
  clear r0 r1 h hk TA
  generalize hpn : place (key, 18446744073709551615) ts = p at *
  have HPN := hide hpn
  clear hpn
  refine (callsIn_wide (n := 5)).1 ?_
  refine callsIn_of_wp_marks Try.func29 rfl trivial ?_ rfl
  simp only [Try.ntmps29, List.size_toArray, List.length_cons, List.length_nil, Nat.reduceAdd, Nat.reduceSub, Array.replicate_succ, Array.replicate_zero, List.push_toArray, List.append_toArray, List.nil_append, List.cons_append]
  gi_wp2_with (first
    | (refine ⟨trivial, ?_⟩; gi_at_call 35; refine (callsIn_wide.2 HM.out).mono ?_; rintro e w1 ⟨rfl, hw1⟩; subst hw1)
    | (refine ⟨trivial, ?_⟩; gi_at_call 37; refine (callsIn_wide.2 HL.out).mono ?_; rintro e w2 ⟨cs, rfl, hp, b2⟩; have PIN := hide hp; have T2 := hide (Turns.of_below b2 (fun _ => False)); clear hp b2)
    | (refine ⟨trivial, ?_⟩; gi_at_call 41; refine (callsIn_wide.2 (behind_any w2 (HT.out.quiet T2.out) hpl PIN.out)).mono ?_; rintro e w3 ⟨rfl, b3⟩; have T3 := hide (T2.out.trans (Turns.of_below b3 (fun _ => False))); obtain ⟨po, hpo⟩ := ptrO_is ((ts[p]?).map (·.b)); rw [hpo]; have HPO := hide hpo; clear b3 hpo)
    | (refine ⟨trivial, ?_⟩; gi_at_call 48; refine (callsIn_wide.2 (onward_any po w3)).mono ?_; rintro e w4 ⟨rfl, hw4⟩; subst hw4))
  have hT4 : Turns (fun _ => False) w (w3.alloc (.cells #[.pointer po] 54)) := (T0.out.trans T3.out).alloc _
  have hsz3 : w.heap.size + 2 ≤ w3.heap.size := by
    have := T3.out.size
    simp at this
    omega
  have hsz4 : (w3.alloc (.cells #[.pointer po] 54)).heap.size = w3.heap.size + 1 := by simp
  have hc4 : (w3.alloc (.cells #[.pointer po] 54)).cell? ⟨w3.heap.size, 0, none⟩ = some (ptrO ((ts[p]?).map (·.b))) := by
    rw [HPO.out]
    exact cell_of_row _ _ 0 _ 54 (0, 0) (heap_alloc_new w3 _)
  have hR0 := (T3.out.alloc (.cells #[.pointer po] 54)).heap R0.out (fun x => x)
  have hR1 := (T3.out.alloc (.cells #[.pointer po] 54)).heap R1.out (fun x => x)
  have hG0 : Got w.heap.size (w.heap.size + 1) w.heap.size n w [] (w3.alloc (.cells #[.pointer po] 54)) := ⟨.slice none 0 0, ⟨hR1, hR0, .inl ⟨rfl, rfl⟩, fun x hx => (by cases hx), fun x hx => (by cases hx)⟩, hT4.below (Nat.le_refl _) (fun _ x => x.elim)⟩
  have TB4 := hide (HTW.out.quiet hT4)
  have HG0 := hide hG0
  clear hG0 hR0 hR1
  refine wpIn_rangeFunc_ownH (w := w3.alloc (.cells #[.pointer po] 54)) rfl (by decide) (gf := 58) (lb := #[.pointer (some ⟨w3.heap.size, 0, none⟩)]) rfl trivial (enters_of Try.func58 (by kernel_rfl) rfl)
    (onward_stops 4 w3.heap.size w.heap.size p (by decide) (fun k => A k ∧ k < w.heap.size) t bg ts (w3.alloc (.cells #[.pointer po] 54)) (by omega) hc4 hpl (fun k hk => hk.2) TB4.out) belowK_t (belowK_b (by omega)) (Below.refl _ _) (fun _ => rfl)
    (fun (pre : List (Fin ts.length)) W => ∃ R, Got w.heap.size (w.heap.size + 1) w.heap.size n w R W ∧ R.map (·.e) = pre.map (eOf ts) ∧ (pre.length : Int) ≤ max n 0)
    (Left ts n w)
    (fun s W W' row ⟨R, h1, h2, h3⟩ hg hr => ⟨R, h1.own (Nat.le_refl _) (by omega) hg hr, h2, h3⟩)
    (fun c s W W' row ⟨pre', x, R, e1, e2, h1, h2, h3, h4⟩ hg hr => ⟨pre', x, R, e1, e2, h1.own (Nat.le_refl _) (by omega) hg hr, h2, h3, h4⟩)
    ⟨[], HG0.out, rfl, by simp; omega⟩
    (fun (x : Fin ts.length) a' W => ∃ Be, w.heap.size + 1 < Be ∧ W.heap[Be]? = some (.cells #[.slice ts[x].ka ts[x].e.key.length ts[x].kc, .int .u64 (ts[x].e.seq : Nat), .int .i64 ts[x].e.kind, .slice ts[x].va ts[x].e.val.length ts[x].vc] 29 (0, 0)) ∧ a' = { tmps := #[.pointer (some ⟨t, 0, none⟩), .slice ka kn kc, .int .i64 n, undef, undef, .pointer (some ⟨w.heap.size, 0, none⟩), .slice none 0 0, .pointer (some ⟨w.heap.size + 1, 0, none⟩), .pointer (some ⟨Be, 0, none⟩), .pointer (some ⟨t, 0, none⟩), .bool true, .bool false, .pointer (some ⟨t, 0, none⟩), .slice ka kn kc, .agg cs, .pointer po, .func (.func 58) #[] #[.pointer (some ⟨w3.heap.size, 0, none⟩)], .agg #[.slice ts[x].ka ts[x].e.key.length ts[x].kc, .int .u64 (ts[x].e.seq : Nat), .int .i64 ts[x].e.kind, .slice ts[x].va ts[x].e.val.length ts[x].vc], undef, undef, undef, undef, undef, undef, undef, undef, undef, undef], defers := [] })
    (fun x a' s W W' row ⟨Be, h1, h2, h3⟩ hg hr => ⟨Be, h1, heap_own hg (fun r e => (hr r e).2) h2, h3⟩) ?assign ?body ?done ?stop
  case assign =>
    rintro l pre x W K ⟨R, hG, hR, hlen⟩ hK
    gi_wp2
    have hW : w.heap.size + 1 < W.heap.size := by
      obtain ⟨v, ⟨g1, _⟩, _⟩ := hG
      exact lt_of_heap g1
    exact hK _ _ ((KeepsOthers.alloc _ _).from _) ((Below.refl _ W).alloc (by omega) _) ⟨R, hG.own (B := w.heap.size) (Nat.le_refl _) (Nat.le_refl _) (World.grownBy_alloc W _ none) (fun r e => by cases e), hR, hlen⟩ ⟨W.heap.size, hW, heap_alloc_new W _, rfl⟩
  case body =>
    rintro l pre x a' W hl ⟨r, hr⟩ ⟨R, hG, hR, hlen⟩ ⟨Be, hBe, hE, rfl⟩ hlt
    have HG := hide hG
    obtain ⟨v, ⟨g1, g2, g3, g4, g5⟩, g6⟩ := hG
    have hRl : R.length = pre.length := by
      have := congrArg List.length hR
      simpa using this
    obtain ⟨a, c, rfl⟩ := g3.len
    have c1 : W.cell? ⟨w.heap.size + 1, 0, none⟩ = some (.slice a R.length c) := cell_of_row W _ 0 _ 33 (0, 0) g1
    have z1 : W.frozen? ⟨w.heap.size + 1, 0, none⟩ = false := frozen_of_row W _ 0 _ 33 g1
    have c2 : W.cell? ⟨w.heap.size, 0, none⟩ = some (.int .i64 n) := cell_of_row W _ 0 _ 3 (0, 0) g2
    have HRL := hide hRl
    have C1 := hide c1
    have hpre : pre.length ≤ 100000 := by
      first
        | omega
        | (rw [xsF_length] at hlt; omega)
    have HE := hide hE
    have G1 := hide g1
    have G2 := hide g2
    have G3 := hide g3
    have G4 := hide g4
    have G5 := hide g5
    have G6 := hide g6
    have HR := hide hR
    clear g1 g2 g3 g4 g5 g6 hE hR hRl
    by_cases hge : n ≤ (R.length : Int)
    · gi_wp2
      exact ⟨(KeepsOthers.refl _).from _, pre, x, R, rfl, rfl, HG.out, HR.out, hlen, by have := HRL.out; omega⟩
    · have hge' : (R.length : Int) < n := by omega
      have hmem : ts[x] ∈ ts := List.getElem_mem x.2
      have TBW := hide (HTW.out.quiet (Turns.of_below G6.out (fun _ => False)))
      have hle := sizeT_mem hmem
      have HKX := hide (TBW.out.keys ts[x] hmem)
      have e0 : W.cell? ⟨Be, 0, none⟩ = some (.slice ts[x].ka ts[x].e.key.length ts[x].kc) := cell_of_row W Be 0 _ 29 (0, 0) HE.out
      have e1 : W.cell? ⟨Be, 1, none⟩ = some (.int .u64 (ts[x].e.seq : Nat)) := cell_of_row W Be 1 _ 29 (0, 0) HE.out
      have e2 : W.cell? ⟨Be, 2, none⟩ = some (.int .i64 ts[x].e.kind) := cell_of_row W Be 2 _ 29 (0, 0) HE.out
      have e3 : W.cell? ⟨Be, 3, none⟩ = some (.slice ts[x].va ts[x].e.val.length ts[x].vc) := cell_of_row W Be 3 _ 29 (0, 0) HE.out
      clear hge
      have HYE : Hid (eOf ts x = ts[x].e) := hide rfl
      generalize ts[x] = y at *
      have HCL := hide (cloneE_any y.ka y.va y.e.key.length y.kc y.e.val.length y.vc y.e.seq y.e.kind y.e.key y.e.val W.drew (HKX.out.1.quiet (Turns.refl _ W).drew) (HKX.out.2.quiet (Turns.refl _ W).drew) (by omega) (by omega))
      gi_wp2
      refine wpIn_region_any (by kernel_rfl) ?_
      refine wpAnyIn_ready (rs := [0, 1]) (by kernel_rfl) (by simp) ?_
      refine AllReadyIn.cons rfl (fun K hK => ?_) ?_
      · go_simp
        refine hK _ _ ?_
        clear hK K
        refine wpAnyIn_ready (rs := [1]) (by kernel_rfl) (by simp) ?_
        refine AllReadyIn.cons rfl (fun K hK => ?_) ?_
        · go_simp
          refine hK _ _ ?_
          clear hK K
          refine wpAnyIn_ready (rs := [2]) (by kernel_rfl) (by simp) ?_
          refine AllReadyIn.cons rfl (fun K hK => ?_) ?_
          · go_simp
            refine ⟨trivial, ?_⟩
            refine (CallsIn.inRound l (callsIn_wide.2 HCL.out)).mono ?_
            rintro e W2 ⟨ka', kc', va', vc', rfl, hk6, hv6, hkb, hvb, b6⟩
            have hkd : ∀ {q : Option Addr}, (∀ x, q = some x → W.drew.heap.size ≤ x.block ∧ x.block < W2.heap.size) → ∀ x, q = some x → W.heap.size ≤ x.block ∧ x.block < W2.heap.size := fun h x e => h x e
            have t6 := (Turns.refl (fun _ => False) W).drew.trans (Turns.of_below b6 (fun _ => False))
            have c1 := t6.cell c1 (fun x => x)
            have ta : Turns (fun _ => False) W (W2.alloc (.cells #[.slice ka' y.e.key.length kc', .int .u64 (y.e.seq : Nat), .int .i64 y.e.kind, .slice va' y.e.val.length vc'] 29)) := t6.alloc _
            have c3 := ta.cell C1.out (fun x => x)
            obtain ⟨g', n', c', W4, hr4, hrow4, t4, b4, hin4⟩ := append_ent (W2.alloc (.cells #[.slice ka' y.e.key.length kc', .int .u64 (y.e.seq : Nat), .int .i64 y.e.kind, .slice va' y.e.val.length vc'] 29)) (w.heap.size + 1 + 1) (.slice a R.length c) R (G3.out.keep ta (fun _ _ x => x)) (by have h1 := lt_of_heap G1.out; have h2 := ta.size; omega) (by have := HRL.out; omega) ⟨0, ka', kc', va', vc', y.e, 0⟩ W2.heap.size 1 (heap_alloc_new W2 _)
            have HQ := hide (hr4 33)
            have FB := hide (body_end (n := n) (N0 := w.heap.size) (y := y) G1.out G2.out G3.out G4.out G5.out G6.out t6 hk6 hv6 (hkd hkb) (hkd hvb) rfl hrow4 t4 hin4)
            clear hk6 hv6 hkb hvb b6 t6 ta hr4 hrow4 t4 b4 hin4 e0 e1 e2 e3
            first | refine hK _ _ ?_ | skip
            try clear hK K
            refine wpAnyIn_ready (rs := [3]) (by kernel_rfl) (by simp) ?_
            refine AllReadyIn.cons rfl (fun K hK => ?_) ?_
            · go_simp
              refine hK _ _ ?_
              clear hK K
              refine wpAnyIn_ready (rs := [4]) (by kernel_rfl) (by simp) ?_
              refine AllReadyIn.cons rfl (fun K hK => ?_) ?_
              · refine step_append_runIn rfl (.tmp 22) (.tmp 25) 33 rfl (.slice a R.length c) (.slice (some ⟨W2.heap.size, 0, none⟩) 1 1) rfl rfl _ _ HQ.out 26 rfl ?_
                refine hK _ _ ?_
                clear hK K
                simp only [Act.put, List.setIfInBounds_toArray, List.set_cons_zero, List.set_cons_succ]
                have FC := FB.out.1
                have FZ := FB.out.2.1
                refine wpAnyIn_ready (rs := [5]) (by kernel_rfl) (by simp) ?_
                refine AllReadyIn.cons rfl (fun K hK => ?_) ?_
                · go_simp
                  refine hK _ _ ?_
                  clear hK K
                  refine wpAnyIn_done (by kernel_rfl) ?_ _
                  exact ⟨FB.out.2.2.1 _, FB.out.2.2.2.1, R ++ [⟨0, ka', kc', va', vc', y.e, 0⟩], FB.out.2.2.2.2, by rw [List.map_append, List.map_append, HR.out, List.map_singleton, List.map_singleton, HYE.out], by have := HRL.out; rw [List.length_append, List.length_singleton]; omega⟩
                exact AllReadyIn.nil
              exact AllReadyIn.nil
            exact AllReadyIn.nil
          exact AllReadyIn.nil
        exact AllReadyIn.nil
      refine AllReadyIn.cons rfl (fun K hK => ?_) ?_
      · go_simp
        refine hK _ _ ?_
        clear hK K
        refine wpAnyIn_ready (rs := [0, 2]) (by kernel_rfl) (by simp) ?_
        refine AllReadyIn.cons rfl (fun K hK => ?_) ?_
        · go_simp
          refine hK _ _ ?_
          clear hK K
          refine wpAnyIn_ready (rs := [2]) (by kernel_rfl) (by simp) ?_
          refine AllReadyIn.cons rfl (fun K hK => ?_) ?_
          · go_simp
            refine ⟨trivial, ?_⟩
            refine (CallsIn.inRound l (callsIn_wide.2 HCL.out)).mono ?_
            rintro e W2 ⟨ka', kc', va', vc', rfl, hk6, hv6, hkb, hvb, b6⟩
            have hkd : ∀ {q : Option Addr}, (∀ x, q = some x → W.drew.heap.size ≤ x.block ∧ x.block < W2.heap.size) → ∀ x, q = some x → W.heap.size ≤ x.block ∧ x.block < W2.heap.size := fun h x e => h x e
            have t6 := (Turns.refl (fun _ => False) W).drew.trans (Turns.of_below b6 (fun _ => False))
            have c1 := t6.cell c1 (fun x => x)
            have ta : Turns (fun _ => False) W (W2.alloc (.cells #[.slice ka' y.e.key.length kc', .int .u64 (y.e.seq : Nat), .int .i64 y.e.kind, .slice va' y.e.val.length vc'] 29)) := t6.alloc _
            have c3 := ta.cell C1.out (fun x => x)
            obtain ⟨g', n', c', W4, hr4, hrow4, t4, b4, hin4⟩ := append_ent (W2.alloc (.cells #[.slice ka' y.e.key.length kc', .int .u64 (y.e.seq : Nat), .int .i64 y.e.kind, .slice va' y.e.val.length vc'] 29)) (w.heap.size + 1 + 1) (.slice a R.length c) R (G3.out.keep ta (fun _ _ x => x)) (by have h1 := lt_of_heap G1.out; have h2 := ta.size; omega) (by have := HRL.out; omega) ⟨0, ka', kc', va', vc', y.e, 0⟩ W2.heap.size 1 (heap_alloc_new W2 _)
            have HQ := hide (hr4 33)
            have FB := hide (body_end (n := n) (N0 := w.heap.size) (y := y) G1.out G2.out G3.out G4.out G5.out G6.out t6 hk6 hv6 (hkd hkb) (hkd hvb) rfl hrow4 t4 hin4)
            clear hk6 hv6 hkb hvb b6 t6 ta hr4 hrow4 t4 b4 hin4 e0 e1 e2 e3
            first | refine hK _ _ ?_ | skip
            try clear hK K
            refine wpAnyIn_ready (rs := [3]) (by kernel_rfl) (by simp) ?_
            refine AllReadyIn.cons rfl (fun K hK => ?_) ?_
            · go_simp
              refine hK _ _ ?_
              clear hK K
              refine wpAnyIn_ready (rs := [4]) (by kernel_rfl) (by simp) ?_
              refine AllReadyIn.cons rfl (fun K hK => ?_) ?_
              · refine step_append_runIn rfl (.tmp 22) (.tmp 25) 33 rfl (.slice a R.length c) (.slice (some ⟨W2.heap.size, 0, none⟩) 1 1) rfl rfl _ _ HQ.out 26 rfl ?_
                refine hK _ _ ?_
                clear hK K
                simp only [Act.put, List.setIfInBounds_toArray, List.set_cons_zero, List.set_cons_succ]
                have FC := FB.out.1
                have FZ := FB.out.2.1
                refine wpAnyIn_ready (rs := [5]) (by kernel_rfl) (by simp) ?_
                refine AllReadyIn.cons rfl (fun K hK => ?_) ?_
                · go_simp
                  refine hK _ _ ?_
                  clear hK K
                  refine wpAnyIn_done (by kernel_rfl) ?_ _
                  exact ⟨FB.out.2.2.1 _, FB.out.2.2.2.1, R ++ [⟨0, ka', kc', va', vc', y.e, 0⟩], FB.out.2.2.2.2, by rw [List.map_append, List.map_append, HR.out, List.map_singleton, List.map_singleton, HYE.out], by have := HRL.out; rw [List.length_append, List.length_singleton]; omega⟩
                exact AllReadyIn.nil
              exact AllReadyIn.nil
            exact AllReadyIn.nil
          exact AllReadyIn.nil
        refine AllReadyIn.cons rfl (fun K hK => ?_) ?_
        · go_simp
          refine ⟨trivial, ?_⟩
          refine (CallsIn.inRound l (callsIn_wide.2 HCL.out)).mono ?_
          rintro e W2 ⟨ka', kc', va', vc', rfl, hk6, hv6, hkb, hvb, b6⟩
          have hkd : ∀ {q : Option Addr}, (∀ x, q = some x → W.drew.heap.size ≤ x.block ∧ x.block < W2.heap.size) → ∀ x, q = some x → W.heap.size ≤ x.block ∧ x.block < W2.heap.size := fun h x e => h x e
          have t6 := (Turns.refl (fun _ => False) W).drew.trans (Turns.of_below b6 (fun _ => False))
          have c1 := t6.cell c1 (fun x => x)
          have ta : Turns (fun _ => False) W (W2.alloc (.cells #[.slice ka' y.e.key.length kc', .int .u64 (y.e.seq : Nat), .int .i64 y.e.kind, .slice va' y.e.val.length vc'] 29)) := t6.alloc _
          have c3 := ta.cell C1.out (fun x => x)
          obtain ⟨g', n', c', W4, hr4, hrow4, t4, b4, hin4⟩ := append_ent (W2.alloc (.cells #[.slice ka' y.e.key.length kc', .int .u64 (y.e.seq : Nat), .int .i64 y.e.kind, .slice va' y.e.val.length vc'] 29)) (w.heap.size + 1 + 1) (.slice a R.length c) R (G3.out.keep ta (fun _ _ x => x)) (by have h1 := lt_of_heap G1.out; have h2 := ta.size; omega) (by have := HRL.out; omega) ⟨0, ka', kc', va', vc', y.e, 0⟩ W2.heap.size 1 (heap_alloc_new W2 _)
          have HQ := hide (hr4 33)
          have FB := hide (body_end (n := n) (N0 := w.heap.size) (y := y) G1.out G2.out G3.out G4.out G5.out G6.out t6 hk6 hv6 (hkd hkb) (hkd hvb) rfl hrow4 t4 hin4)
          clear hk6 hv6 hkb hvb b6 t6 ta hr4 hrow4 t4 b4 hin4 e0 e1 e2 e3
          first | refine hK _ _ ?_ | skip
          try clear hK K
          refine wpAnyIn_ready (rs := [0, 3]) (by kernel_rfl) (by simp) ?_
          refine AllReadyIn.cons rfl (fun K hK => ?_) ?_
          · go_simp
            refine hK _ _ ?_
            clear hK K
            refine wpAnyIn_ready (rs := [3]) (by kernel_rfl) (by simp) ?_
            refine AllReadyIn.cons rfl (fun K hK => ?_) ?_
            · go_simp
              refine hK _ _ ?_
              clear hK K
              refine wpAnyIn_ready (rs := [4]) (by kernel_rfl) (by simp) ?_
              refine AllReadyIn.cons rfl (fun K hK => ?_) ?_
              · refine step_append_runIn rfl (.tmp 22) (.tmp 25) 33 rfl (.slice a R.length c) (.slice (some ⟨W2.heap.size, 0, none⟩) 1 1) rfl rfl _ _ HQ.out 26 rfl ?_
                refine hK _ _ ?_
                clear hK K
                simp only [Act.put, List.setIfInBounds_toArray, List.set_cons_zero, List.set_cons_succ]
                have FC := FB.out.1
                have FZ := FB.out.2.1
                refine wpAnyIn_ready (rs := [5]) (by kernel_rfl) (by simp) ?_
                refine AllReadyIn.cons rfl (fun K hK => ?_) ?_
                · go_simp
                  refine hK _ _ ?_
                  clear hK K
                  refine wpAnyIn_done (by kernel_rfl) ?_ _
                  exact ⟨FB.out.2.2.1 _, FB.out.2.2.2.1, R ++ [⟨0, ka', kc', va', vc', y.e, 0⟩], FB.out.2.2.2.2, by rw [List.map_append, List.map_append, HR.out, List.map_singleton, List.map_singleton, HYE.out], by have := HRL.out; rw [List.length_append, List.length_singleton]; omega⟩
                exact AllReadyIn.nil
              exact AllReadyIn.nil
            exact AllReadyIn.nil
          refine AllReadyIn.cons rfl (fun K hK => ?_) ?_
          · go_simp
            refine hK _ _ ?_
            clear hK K
            refine wpAnyIn_ready (rs := [0]) (by kernel_rfl) (by simp) ?_
            refine AllReadyIn.cons rfl (fun K hK => ?_) ?_
            · go_simp
              refine hK _ _ ?_
              clear hK K
              refine wpAnyIn_ready (rs := [4]) (by kernel_rfl) (by simp) ?_
              refine AllReadyIn.cons rfl (fun K hK => ?_) ?_
              · refine step_append_runIn rfl (.tmp 22) (.tmp 25) 33 rfl (.slice a R.length c) (.slice (some ⟨W2.heap.size, 0, none⟩) 1 1) rfl rfl _ _ HQ.out 26 rfl ?_
                refine hK _ _ ?_
                clear hK K
                simp only [Act.put, List.setIfInBounds_toArray, List.set_cons_zero, List.set_cons_succ]
                have FC := FB.out.1
                have FZ := FB.out.2.1
                refine wpAnyIn_ready (rs := [5]) (by kernel_rfl) (by simp) ?_
                refine AllReadyIn.cons rfl (fun K hK => ?_) ?_
                · go_simp
                  refine hK _ _ ?_
                  clear hK K
                  refine wpAnyIn_done (by kernel_rfl) ?_ _
                  exact ⟨FB.out.2.2.1 _, FB.out.2.2.2.1, R ++ [⟨0, ka', kc', va', vc', y.e, 0⟩], FB.out.2.2.2.2, by rw [List.map_append, List.map_append, HR.out, List.map_singleton, List.map_singleton, HYE.out], by have := HRL.out; rw [List.length_append, List.length_singleton]; omega⟩
                exact AllReadyIn.nil
              exact AllReadyIn.nil
            exact AllReadyIn.nil
          exact AllReadyIn.nil
        exact AllReadyIn.nil
      exact AllReadyIn.nil
  case done =>
    rintro D xs W hD rfl ⟨R, hG, hR, hlen⟩ hK
    have hGF := hG.own (B := (w3.alloc (.cells #[.pointer po] 54)).heap.size) (Nat.le_refl _) (by omega) (grownBy_putObj' W D (.deferred none)) (fun r e => by cases e; exact ⟨hD, _, hK, rfl⟩)
    have HGF := hide hGF
    obtain ⟨v, ⟨g1, g2, g3, g4, g5⟩, g6⟩ := hG
    have c1 : W.cell? ⟨w.heap.size + 1, 0, none⟩ = some v := cell_of_row W _ 0 _ 33 (0, 0) g1
    obtain ⟨a, c, rfl⟩ := g3.len
    have HG1 := hide g1
    have HK := hide hK
    have HR := hide hR
    clear g1 g2 g3 g4 g5 g6 hGF hR
    gi_wp2
    refine ⟨by simp, .inl ⟨_, _, rfl, run_takeDeferred HK.out, ?_⟩⟩
    obtain ⟨v', ⟨k1, k2, k3, k4, k5⟩, k6⟩ := HGF.out
    have hD1 : w.heap.size + 1 ≠ D := by omega
    have e1 : v' = .slice a R.length c := by
      rw [World.putObj_heap_other hD1, HG1.out] at k1
      cases k1
      rfl
    subst e1
    refine ⟨_, results_tmp rfl _ _ _, _, R, rfl, k3.le (by omega), k4.le (by omega), ?_, k6⟩
    have h1 := HR.out
    rw [map_xsF] at h1
    rw [h1, List.take_of_length_le]
    rw [List.length_map, List.length_drop]
    rw [xsF_length] at hlen
    omega
  case stop =>
    rintro D c pre W hD hpre ⟨pre', x, R, rfl, rfl, hG, hR, hlen, hge⟩ hK
    have hGF := hG.own (B := (w3.alloc (.cells #[.pointer po] 54)).heap.size) (Nat.le_refl _) (by omega) (grownBy_putObj' W D (.deferred none)) (fun r e => by cases e; exact ⟨hD, _, hK, rfl⟩)
    have HGF := hide hGF
    obtain ⟨v, ⟨g1, g2, g3, g4, g5⟩, g6⟩ := hG
    have c1 : W.cell? ⟨w.heap.size + 1, 0, none⟩ = some v := cell_of_row W _ 0 _ 33 (0, 0) g1
    obtain ⟨a, c, rfl⟩ := g3.len
    have HG1 := hide g1
    have HK := hide hK
    have HR := hide hR
    have HPR := hide hpre
    clear g1 g2 g3 g4 g5 g6 hGF hR hpre
    gi_wp2
    refine ⟨by simp, .inl ⟨_, _, rfl, run_takeDeferred HK.out, ?_⟩⟩
    obtain ⟨v', ⟨k1, k2, k3, k4, k5⟩, k6⟩ := HGF.out
    have hD1 : w.heap.size + 1 ≠ D := by omega
    have e1 : v' = .slice a R.length c := by
      rw [World.putObj_heap_other hD1, HG1.out] at k1
      cases k1
      rfl
    subst e1
    refine ⟨_, results_tmp rfl _ _ _, _, R, rfl, k3.le (by omega), k4.le (by omega), ?_, k6⟩
    obtain ⟨rest, hrest⟩ := HPR.out
    have hlen' : pre'.length = n.toNat := by omega
    rw [HR.out, ← map_xsF, ← hrest, List.append_assoc, List.map_append, List.take_append_of_le_length (by rw [List.length_map]; omega), List.take_of_length_le (by rw [List.length_map]; omega)]
end Go.Proofs.Ytkeglaplckfllaa

/-
  All: every entry of a table.
-/
namespace Go.Proofs.Ytkeglaplckfllaa
open Go.RowKit Go.Shelf
set_option maxRecDepth 100000
set_option maxHeartbeats 4000000
theorem bytes_nil (w : World) : Bytes w (.slice none 0 0) [] := ⟨none, 0, rfl, fun k hk => by simp at hk⟩
theorem cmpB_none (k : List (BitVec 8)) (h : k ≠ []) : cmpB k [] = 1 := by
  cases k with
  | nil => exact absurd rfl h
  | cons a l => rfl
theorem place_first (n : Nat) : ∀ ts : List Tow, (∀ x, x ∈ ts → x.e.key ≠ []) → place ([], n) ts = 0
  | [], _ => rfl
  | x :: r, h => by
    unfold place
    have h1 := cmpB_none x.e.key (h x (List.mem_cons_self ..))
    rw [if_neg]
    unfold cmpE
    rw [show x.e.en.1 = x.e.key from rfl, h1, if_pos (by decide)]
    decide
theorem all_any (A : Nat → Prop) (t bg : Nat) (ts : List Tow) (w : World) (h : Tab A w t bg ts) (hk : ∀ x, x ∈ ts → x.e.key ≠ []) (hn : ts.length ≤ 100000) (hs : sizeT ts ≤ 900000) :
    Calls Try.prog 11 #[.pointer (some ⟨t, 0, none⟩)] w fun e w' => ∃ v R, e = .returned v ∧ ERow w' w.heap.size v R ∧ Shown w' w.heap.size R ∧ R.map (·.e) = ts.map (·.e) ∧ Below w.heap.size w w' := by
  have HL := hide (len_any A t bg ts w h)
  have HF := hide (from_any A t bg ts w none 0 0 [] (ts.length : Nat) h (bytes_nil w) hn hs)
  have HP := hide (place_first 18446744073709551615 ts hk)
  clear h hk hn hs
  go_enter Try.func11, Try.ntmps11
  go_wp2_with (first | (go_at_call 13; refine HL.out.mono ?_; rintro e w1 ⟨rfl, rfl⟩) | (go_at_call 29; refine HF.out.mono ?_; rintro e w1 ⟨v, R, rfl, h1, h2, h3, h4⟩))
  go_ret
  refine ⟨v, R, rfl, h1, h2, ?_, h4⟩
  rw [h3, HP.out, List.drop_zero, Int.toNat_natCast, List.take_of_length_le (by simp)]
end Go.Proofs.Ytkeglaplckfllaa
