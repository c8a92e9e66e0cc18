/-
  The entries from a tower on, one by one.
-/
import Derived.Test.YtkeglaplckfllaaEr
import Derived.RangeFuncNested
import Derived.RangeFuncBound
import Derived.RangeFuncCalls
import Derived.RangeFuncLeaves
import Derived.Shelf.Abstract
import Derived.Shelf.RegionOpen
import Derived.WalkKit
import Derived.OwnWalkIn
import Derived.TacticsInMore
import Derived.LoopNIn
import Derived.LoopIn
namespace Go.Proofs.Ytkeglaplckfllaa
open Go.RowKit Go.Shelf
attribute [local go_sem] Oper.semAt_some
/-- The places from p on. -/
def xsF (ts : List Tow) (p : Nat) : List (Fin ts.length) := (List.finRange ts.length).drop p
theorem xsF_cons (ts : List Tow) (p : Nat) (h : p < ts.length) : xsF ts p = ⟨p, h⟩ :: xsF ts (p + 1) := by
  unfold xsF
  rw [List.drop_eq_getElem_cons (by simpa using h)]
  simp
theorem xsF_nil (ts : List Tow) : xsF ts ts.length = [] := by
  unfold xsF
  exact List.drop_of_length_le (by simp)
theorem xsF_length (ts : List Tow) (p : Nat) : (xsF ts p).length = ts.length - p := by
  unfold xsF
  simp
def leftV (ts : List Tow) : Value → Nat
  | .pointer (some a) => ts.length - ts.findIdx (fun x => x.b == a.block)
  | _ => 0
theorem leftV_at {A : Nat → Prop} {w : World} {t bg : Nat} {ts : List Tow} (h : Tab A w t bg ts) {j : Nat} {x : Tow} (hj : ts[j]? = some x) : leftV ts (.pointer (some ⟨x.b, 0, none⟩)) = ts.length - j := by
  obtain ⟨hlt, hx⟩ := List.getElem?_eq_some_iff.1 hj
  show ts.length - ts.findIdx (fun y => y.b == x.b) = ts.length - j
  congr 1
  refine List.findIdx_eq (h := hlt) |>.2 ⟨by simp [hx], fun i hi => ?_⟩
  have hil : i < ts.length := by omega
  have h1 := h.nodes.inj (i + 1) (j + 1) (by omega) (by omega)
  rw [nodeB_at (List.getElem?_eq_getElem hil), nodeB_at hj] at h1
  have : ¬ ts[i].b = x.b := fun e => by have := h1 e; omega
  simpa using this
theorem onward_any (q : Option Addr) (w : World) : Calls Try.prog 48 #[.pointer q] w fun e w' => e = .returned (.func (.func 58) #[] #[.pointer (some ⟨w.heap.size, 0, none⟩)]) ∧ w' = w.alloc (.cells #[.pointer q] 54) := by
  go_enter Try.func48, Try.ntmps48
  go_wp2_with fail
  go_ret
  exact ⟨rfl, rfl⟩
set_option maxRecDepth 100000 in
set_option maxHeartbeats 4000000 in
theorem onward1_in (n l Bn n₀ p BJ : Nat) (hn : 1 ≤ n) (A : Nat → Prop) (t bg : Nat) (ts : List Tow) (J Jx : List (Fin ts.length) → World → Prop)
    (hJ : AbidesFrom BJ J)
    (hY : ∀ pre (x : Fin ts.length) W, J pre W → pre.length < ts.length - p → YieldAt Fence.wide (n - 1) Try.prog l #[.agg #[.slice ts[x].ka ts[x].e.key.length ts[x].kc, .int .u64 (ts[x].e.seq : Nat), .int .i64 ts[x].e.kind, .slice ts[x].va ts[x].e.val.length ts[x].vc]] W fun e W' =>
      (e = .returned (.bool true) ∧ J (pre ++ [x]) W' ∧ Below n₀ W W') ∨ (e = .returned (.bool false) ∧ Jx (pre ++ [x]) W'))
    (W : World) (hBn : W.cell? ⟨Bn, 0, none⟩ = some (ptrO ((ts[p]?).map (·.b)))) (hp : p ≤ ts.length) (hA : ∀ k, A k → k < n₀) (hT : Tab A W t bg ts) (h0 : J [] W) :
    CallsIn Fence.wide n Try.prog 58 #[.func (.yield l) #[] #[], .pointer (some ⟨Bn, 0, none⟩)] W fun e W' => (∃ v, e = .returned v) ∧
      ((∃ ys, ys = xsF ts p ∧ J ys W') ∨ (∃ pre, pre <+: xsF ts p ∧ Jx pre W')) := by
  obtain ⟨v0, hv0⟩ : ∃ v, ptrO ((ts[p]?).map (·.b)) = v := ⟨_, rfl⟩
  rw [hv0] at hBn
  have HV0 := hide hv0.symm
  have HT := hide hT
  have HY := hide hY
  have HJ0 := hide h0
  clear hv0 hT hY h0
  refine callsIn_of_wp Try.func58 rfl trivial ?_ rfl
  simp only [Try.ntmps58, List.size_toArray, List.length_cons, List.length_nil, Nat.reduceAdd, Nat.reduceSub, Array.replicate_succ, Array.replicate_zero, List.push_toArray, List.append_toArray, List.nil_append, List.cons_append]
  gi_wp2
  gi_loopw [3] (fun q wr => ∃ (pre : List (Fin ts.length)) (j : Nat), q = ptrO ((ts[j]?).map (·.b)) ∧ j ≤ ts.length ∧ xsF ts p = pre ++ xsF ts j ∧ Tab A wr t bg ts ∧ J pre wr) (fun q _ => leftV ts q)
  case atStart => exact ⟨[], p, HV0.out, hp, rfl, HT.out, HJ0.out⟩
  case round =>
    obtain ⟨pre, j, rfl, hj, hx, hT, hJs⟩ := hrel
    have TB := hide hT
    have HX := hide hx
    have HJS := hide hJs
    clear hT hx hJs
    cases e : ts[j]? with
    | none =>
      have hjl : j = ts.length := by
        have := List.getElem?_eq_none_iff.1 e
        omega
      have HJL := hide hjl
      rw [show ptrO (Option.map (·.b) (none : Option Tow)) = Value.pointer none from rfl]
      clear e hjl
      gi_wp2
      go_end0
      have h1 := HX.out
      rw [HJL.out, xsF_nil, List.append_nil] at h1
      exact ⟨⟨_, rfl⟩, .inl ⟨pre, h1.symm, HJS.out⟩⟩
    | some x =>
      obtain ⟨hjl, hxe⟩ := List.getElem?_eq_some_iff.1 e
      obtain ⟨cx, hnx, hex⟩ := TB.out.nodes.node (j + 1) (by omega)
      have hex := hex j x rfl e
      rw [nodeB_at e] at hnx
      have x0 : wr.cell? ⟨x.b, 0, none⟩ = some (.slice x.ka x.e.key.length x.kc) := (cell_of_row wr x.b 0 cx 64 (0, 0) hnx.heap).trans hex.1
      have x1 : wr.cell? ⟨x.b, 1, none⟩ = some (.int .u64 (x.e.seq : Nat)) := (cell_of_row wr x.b 1 cx 64 (0, 0) hnx.heap).trans hex.2.1
      have x2 : wr.cell? ⟨x.b, 2, none⟩ = some (.int .i64 x.e.kind) := (cell_of_row wr x.b 2 cx 64 (0, 0) hnx.heap).trans hex.2.2.1
      have x3 : wr.cell? ⟨x.b, 3, none⟩ = some (.slice x.va x.e.val.length x.vc) := (cell_of_row wr x.b 3 cx 64 (0, 0) hnx.heap).trans hex.2.2.2
      have hlen : pre.length < ts.length - p := by
        have := congrArg List.length HX.out
        rw [xsF_length, List.length_append, xsF_length] at this
        omega
      obtain ⟨fn, tmps, assign, body, hy, hR⟩ := HY.out pre ⟨j, hjl⟩ wr HJS.out hlen
      rw [show ts[(⟨j, hjl⟩ : Fin ts.length)] = x from hxe] at hy
      have HR := hide hR
      have HE := hide e
      have HXE := hide hxe
      rw [show ptrO (Option.map (·.b) (some x)) = Value.pointer (some ⟨x.b, 0, none⟩) from rfl]
      clear hnx hex e hR hxe
      gi_wp2
      refine HR.out.mono ?_
      rintro e W3 (⟨rfl, hJ3, hk3⟩ | ⟨rfl, hJx3⟩)
      · have T3 := hide (TB.out.keep (S := fun k => n₀ ≤ k) ⟨hk3.os, hk3.tape, hk3.output, hk3.size, fun k _ hk => hk3.block k (by omega)⟩ fun k _ ha => by have := hA k ha; omega)
        have HJ3 := hide hJ3
        obtain ⟨cy, hny, _⟩ := T3.out.nodes.node (j + 1) (by omega)
        rw [nodeB_at HE.out, nodeH_at HE.out] at hny
        have hhx := T3.out.tall x (List.mem_of_getElem? HE.out)
        have HNY := hide hny
        have hz := nxt_zero T3.out (j + 1)
        have xl : W3.cell? ⟨x.b, 5, none⟩ = some (ptrO ((ts[j + 1]?).map (·.b))) := by
          rw [← hz]
          exact (cell_of_row W3 x.b 5 cy 64 (0, 0) hny.heap).trans (hny.room 0 (by omega))
        have i1 : (0 : Int) < x.h := by omega
        have hh12 := hhx.2
        obtain ⟨vn, hvn⟩ : ∃ v, ptrO ((ts[j + 1]?).map (·.b)) = v := ⟨_, rfl⟩
        rw [hvn] at xl
        have HVN := hide hvn.symm
        clear hny hz hk3 hJ3 x0 x1 x2 x3 hy hvn
        gi_wp2_with (refine ⟨trivial, ?_⟩; gi_at_call 52; refine (callsIn_wide.2 (levels_any _ _ _ _ _ HNY.out hh12)).mono ?_; rintro e w4 ⟨rfl, m4, rfl⟩)
        go_roundw
        case rel =>
          refine ⟨pre ++ [⟨j, hjl⟩], j + 1, HVN.out, by omega, by rw [HX.out, xsF_cons ts j hjl, List.append_assoc]; rfl, T3.out.quiet ((Turns.refl _ W3).drewN m4), hJ _ W3 _ none HJ3.out ⟨rfl, rfl, rfl, Nat.le_refl _, fun _ _ _ => rfl⟩ (fun r e => by cases e)⟩
        case measure =>
          rw [leftV_at TB.out HE.out, HVN.out]
          cases e2 : ts[j + 1]? with
          | none => show 0 < _; omega
          | some y =>
            show leftV ts (.pointer (some ⟨y.b, 0, none⟩)) < _
            rw [leftV_at TB.out e2]
            omega
      · gi_wp2
        refine bodyPost_ret (results_none rfl _ _ _) rfl ?_
        exact ⟨⟨_, rfl⟩, .inr ⟨pre ++ [⟨j, hjl⟩], ⟨xsF ts (j + 1), by rw [HX.out, xsF_cons ts j hjl, List.append_assoc]; rfl⟩, hJx3⟩⟩
/-- What 'onward' hands back goes through all entries from a place on, or stops where it is told to. -/
theorem onward_stops (n Bn n₀ p : Nat) (hn : 1 ≤ n) (A : Nat → Prop) (t bg : Nat) (ts : List Tow) (w : World) (hBn : Bn < w.heap.size) (hc : w.cell? ⟨Bn, 0, none⟩ = some (ptrO ((ts[p]?).map (·.b)))) (hp : p ≤ ts.length) (hA : ∀ k, A k → k < n₀) (hT : Tab A w t bg ts) :
    SeqStopsK Fence.wide n Try.prog 58 #[.pointer (some ⟨Bn, 0, none⟩)] (fun x : Fin ts.length => #[Value.agg #[.slice ts[x].ka ts[x].e.key.length ts[x].kc, .int .u64 (ts[x].e.seq : Nat), .int .i64 ts[x].e.kind, .slice ts[x].va ts[x].e.val.length ts[x].vc]]) (Below n₀) (fun ys => ys = xsF ts p) (fun pre => pre <+: xsF ts p) (ts.length - p) w := fun l J Jx W hW hJ _ hY h0 =>
  onward1_in n l Bn n₀ p W.heap.size hn A t bg ts J Jx hJ hY W ((hW.cell (p := ⟨Bn, 0, none⟩) hBn).trans hc) hp hA (hT.quiet (Turns.of_below hW _)) h0
end Go.Proofs.Ytkeglaplckfllaa
