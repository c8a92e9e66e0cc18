import Derived.Test.YtjklbhdhjfifhaaGreatM01
import Derived.RangeFuncNested
import Derived.RangeFuncBound
import Derived.RangeFuncCalls
import Derived.RangeFuncLeaves
import Derived.Shelf.Abstract
import Derived.Shelf.RegionOpen
import Derived.OwnWalkIn
import Derived.TacticsInMore
import Derived.LoopNIn
import Derived.LoopIn
import Derived.Sort.QuietIn
/-
  The places of a key's probes, one by one.
-/
namespace Go.Proofs.YtjklbhdhjfifhaaGreat
open Go.RowKit Go.Shelf
set_option maxRecDepth 100000
set_option maxHeartbeats 4000000
attribute [local go_sem] Oper.semAt_some
/-- Three cells of one's own are kept. -/
def Keep3 (B : Nat) (W W' : World) : Prop := ∀ b, B ≤ b → b < B + 3 → ∀ cs t fr, W.heap[b]? = some (.cells cs t fr) → W'.heap[b]? = some (.cells cs t fr)
theorem Keep3.trans {B : Nat} {X Y Z : World} (h : Keep3 B X Y) (k : Keep3 B Y Z) : Keep3 B X Z := fun b h1 h2 cs t fr e => k b h1 h2 cs t fr (h b h1 h2 cs t fr e)
theorem Keep3.put {B : Nat} (W : World) (l : Nat) (o o' : Obj) (ho : W.heap[l]? = some o) (hc : o.isCells = false) : Keep3 B W (W.putObj l o') := by
  intro b _ _ cs t fr e
  have hb : b ≠ l := fun x => by rw [x, ho] at e; cases e; cases hc
  rw [World.putObj_heap_other hb]
  exact e
theorem Keep3.of_turns {S : Nat → Prop} {B : Nat} {W W' : World} (h : Turns S W W') (hS : ∀ b, B ≤ b → b < B + 3 → ¬ S b) : Keep3 B W W' := fun b h1 h2 _ _ _ e => h.heap e (hS b h1 h2)
/-- What the closure holds. -/
def Caught (B h N k : Nat) (w : World) : Prop := w.heap[B]? = some (.cells #[.int .u64 (h : Nat)] 33 (0, 0)) ∧ w.heap[B + 1]? = some (.cells #[.int .i64 (N : Nat)] 3 (0, 0)) ∧ w.heap[B + 2]? = some (.cells #[.int .i64 (k : Nat)] 3 (0, 0))
theorem Caught.keep {B h N k : Nat} {W W' : World} (hc : Caught B h N k W) (hk : Keep3 B W W') : Caught B h N k W' :=
  ⟨hk _ (by omega) (by omega) _ _ _ hc.1, hk _ (by omega) (by omega) _ _ _ hc.2.1, hk _ (by omega) (by omega) _ _ _ hc.2.2⟩
theorem places_any (h N k : Nat) (w : World) : Calls Tryz.prog 83 #[.int .u64 (h : Nat), .int .i64 (N : Nat), .int .i64 (k : Nat)] w fun e w' => e = .returned (.func (.func 128) #[] #[.pointer (some ⟨w.heap.size, 0, none⟩), .pointer (some ⟨w.heap.size + 2, 0, none⟩), .pointer (some ⟨w.heap.size + 1, 0, none⟩)]) ∧ w' = ((w.alloc (.cells #[.int .u64 (h : Nat)] 33)).alloc (.cells #[.int .i64 (N : Nat)] 3)).alloc (.cells #[.int .i64 (k : Nat)] 3) := by
  go_enter Tryz.func83, Tryz.ntmps83
  go_wp2_with fail
  go_ret
  exact ⟨rfl, rfl⟩
theorem caught_new (h N k : Nat) (w : World) : Caught w.heap.size h N k (((w.alloc (.cells #[.int .u64 (h : Nat)] 33)).alloc (.cells #[.int .i64 (N : Nat)] 3)).alloc (.cells #[.int .i64 (k : Nat)] 3)) := by
  have b1 : Below (w.heap.size + 1) (w.alloc (.cells #[.int .u64 (h : Nat)] 33)) (((w.alloc (.cells #[.int .u64 (h : Nat)] 33)).alloc (.cells #[.int .i64 (N : Nat)] 3)).alloc (.cells #[.int .i64 (k : Nat)] 3)) := ((Below.refl _ _).alloc (by simp) _).alloc (by simp) _
  have b2 : Below (w.heap.size + 2) ((w.alloc (.cells #[.int .u64 (h : Nat)] 33)).alloc (.cells #[.int .i64 (N : Nat)] 3)) (((w.alloc (.cells #[.int .u64 (h : Nat)] 33)).alloc (.cells #[.int .i64 (N : Nat)] 3)).alloc (.cells #[.int .i64 (k : Nat)] 3)) := (Below.refl _ _).alloc (by simp) _
  refine ⟨(b1.block _ (by omega)).trans (heap_alloc_new w _), (b2.block _ (by omega)).trans ?_, ?_⟩
  · have := heap_alloc_new (w.alloc (.cells #[.int .u64 (h : Nat)] 33)) (.cells #[.int .i64 (N : Nat)] 3)
    rwa [World.size_alloc] at this
  · have := heap_alloc_new ((w.alloc (.cells #[.int .u64 (h : Nat)] 33)).alloc (.cells #[.int .i64 (N : Nat)] 3)) (.cells #[.int .i64 (k : Nat)] 3)
    rwa [World.size_alloc, World.size_alloc] at this
theorem low_q (h : Nat) (hh : h < 18446744073709551616) : bits .and .u64 (h : Int) 4294967295 = ((sumN h 0 : Nat) : Int) := by
  have e := and_q (BitVec.ofNat 64 h) 4294967295#64
  rw [BitVec.toNat_ofNat, Nat.mod_eq_of_lt hh] at e
  rw [show (4294967295 : Int) = ((4294967295#64).toNat : Int) from rfl, e, BitVec.toNat_and, BitVec.toNat_ofNat, Nat.mod_eq_of_lt hh, sumN_zero]
  congr 1
  exact Nat.and_two_pow_sub_one_eq_mod h 32
theorem stp_q (h : Nat) (hh : h < 18446744073709551616) : bits .or .u64 ((h : Int) / 4294967296) 1 = ((stp h : Nat) : Int) := by
  have hd : h / 4294967296 < 18446744073709551616 := by omega
  have e := or_q (BitVec.ofNat 64 (h / 4294967296)) 1#64
  rw [BitVec.toNat_ofNat, Nat.mod_eq_of_lt hd] at e
  rw [show (h : Int) / 4294967296 = ((h / 4294967296 : Nat) : Int) from by omega, show (1 : Int) = ((1#64).toNat : Int) from rfl, e, BitVec.toNat_or, BitVec.toNat_ofNat, Nat.mod_eq_of_lt hd]
  rfl
theorem next_q (h i : Nat) (hh : h < 18446744073709551616) : bits .and .u64 (((sumN h i : Nat) : Int) + ((stp h : Nat) : Int)) 4294967295 = ((sumN h (i + 1) : Nat) : Int) := by
  have h1 := sumN_lt h i
  have h2 := stp_lt h hh
  have hd : sumN h i + stp h < 18446744073709551616 := by omega
  have e := and_q (BitVec.ofNat 64 (sumN h i + stp h)) 4294967295#64
  rw [BitVec.toNat_ofNat, Nat.mod_eq_of_lt hd] at e
  rw [← Int.natCast_add, show (4294967295 : Int) = ((4294967295#64).toNat : Int) from rfl, e, BitVec.toNat_and, BitVec.toNat_ofNat, Nat.mod_eq_of_lt hd, sumN_succ]
  congr 1
  exact Nat.and_two_pow_sub_one_eq_mod _ 32
/-- The probes, each below N. -/
def probesF (h : Nat) {N : Nat} (hN : 1 ≤ N) (k : Nat) : List (Fin N) := (List.range k).map fun i => ⟨prb h N i, prb_lt h N i hN⟩
theorem probesF_val (h : Nat) {N : Nat} (hN : 1 ≤ N) (k : Nat) : (probesF h hN k).map (·.val) = probes h N k := by simp [probesF, probes]
theorem probesF_length (h : Nat) {N : Nat} (hN : 1 ≤ N) (k : Nat) : (probesF h hN k).length = k := by simp [probesF]
theorem probesF_succ (h : Nat) {N : Nat} (hN : 1 ≤ N) (k : Nat) : probesF h hN (k + 1) = probesF h hN k ++ [⟨prb h N k, prb_lt h N k hN⟩] := by simp [probesF, List.range_succ]
theorem probesF_pre (h : Nat) {N : Nat} (hN : 1 ≤ N) (k i : Nat) (hi : i ≤ k) : probesF h hN i <+: probesF h hN k := by
  unfold probesF
  refine List.IsPrefix.map _ ?_
  refine ⟨(List.range (k - i)).map (i + ·), ?_⟩
  rw [← List.range_add, show i + (k - i) = k by omega]
theorem places1_in (n l B h N k BJ : Nat) (hn : 1 ≤ n) (hh : h < 18446744073709551616) (hN : 1 ≤ N) (hN2 : N ≤ 8388608) (hk : k ≤ 30) (J Jx : List (Fin N) → World → Prop)
    (hJ : AbidesFrom BJ J)
    (hY : ∀ pre (x : Fin N) W, J pre W → pre.length < k → YieldAt Fence.wide (n - 1) Tryz.prog l #[.int .i64 (x.val : Nat)] W fun e W' =>
      (e = .returned (.bool true) ∧ J (pre ++ [x]) W' ∧ Keep3 B W W') ∨ (e = .returned (.bool false) ∧ Jx (pre ++ [x]) W'))
    (W : World) (hc : Caught B h N k W) (h0 : J [] W) :
    CallsIn Fence.wide n Tryz.prog 128 #[.func (.yield l) #[] #[], .pointer (some ⟨B, 0, none⟩), .pointer (some ⟨B + 2, 0, none⟩), .pointer (some ⟨B + 1, 0, none⟩)] W fun e W' => (∃ v, e = .returned v) ∧
      ((∃ ys, ys = probesF h hN k ∧ J ys W') ∨ (∃ pre, pre <+: probesF h hN k ∧ Jx pre W')) := by
  have HC := hide hc
  have HY := hide hY
  have HJ0 := hide h0
  have c1 : W.cell? ⟨B, 0, none⟩ = some (.int .u64 (h : Nat)) := cell_of_row W _ 0 _ 33 (0, 0) hc.1
  have c3 : W.cell? ⟨B + 2, 0, none⟩ = some (.int .i64 (k : Nat)) := cell_of_row W _ 0 _ 3 (0, 0) hc.2.2
  have q1 := low_q h hh
  have q2 := stp_q h hh
  have hst := stp_lt h hh
  have HQ := hide (fun i => next_q h i hh)
  clear hY h0 hc
  generalize hS0 : sumN h 0 = s0 at *
  generalize hS : stp h = st at *
  have HS0 := hide hS0
  have HS := hide hS
  clear hS0 hS
  refine callsIn_of_wp Tryz.func128 rfl trivial ?_ rfl
  simp only [Tryz.ntmps128, List.size_toArray, List.length_cons, List.length_nil, Nat.reduceAdd, Nat.reduceSub, Array.replicate_succ, Array.replicate_zero, List.push_toArray, List.append_toArray, List.nil_append, List.cons_append]
  gi_wp2
  gi_quiet (fail)
  gi_wp2
  have HCQ := hide (show Caught B h N k (W.drewN nq) from HC.out)
  have HJQ := hide (hJ _ W (W.drewN nq) none HJ0.out ⟨rfl, rfl, rfl, Nat.le_refl _, fun _ _ _ => rfl⟩ (fun r e => by cases e))
  clear c1 c3 q1 q2 HC HJ0
  gi_loopw [5, 13] (fun s x wr => ∃ i : Nat, s = .int .u64 (sumN h i : Nat) ∧ x = .int .i64 (i : Nat) ∧ i ≤ k ∧ Caught B h N k wr ∧ J (probesF h hN i) wr) (fun _ x _ => k - (intOf x).toNat)
  case atStart => exact ⟨0, by rw [HS0.out], rfl, Nat.zero_le _, HCQ.out, HJQ.out⟩
  case round =>
    obtain ⟨i, rfl, rfl, hi, hc, hJs⟩ := hrel
    have HC := hide hc
    have HJS := hide hJs
    have c2 : wr.cell? ⟨B + 1, 0, none⟩ = some (.int .i64 (N : Nat)) := cell_of_row wr _ 0 _ 3 (0, 0) hc.2.1
    have hlt := sumN_lt h i
    have HPB := hide (show ((sumN h i : Nat) : Int) % (N : Int) = ((prb h N i : Nat) : Int) by unfold prb; omega)
    have HPS := hide (probesF_succ h hN i)
    have hpl := prb_lt h N i (by omega)
    have HPL := hide (probesF_length h hN i)
    have HQI := hide (HQ.out i)
    clear hc hJs
    by_cases hik : i < k
    · have i1 : (i : Int) < (k : Int) := by omega
      obtain ⟨fn, tmps, assign, body, hy, hR⟩ := HY.out (probesF h hN i) ⟨prb h N i, prb_lt h N i hN⟩ wr HJS.out (by rw [HPL.out]; exact hik)
      have hy2 := hy
      simp only at hy2
      rw [← HPB.out] at hy2
      clear hy
      have HR := hide hR
      clear hR
      generalize sumN h i = s at *
      have hn0 : ¬ (N : Int) = 0 := by omega
      have hn1 : ¬ N = 0 := by omega
      have hm0 : (0 : Int) ≤ (s : Int) % (N : Int) := Int.emod_nonneg _ hn0
      have hm1 : (s : Int) % (N : Int) < (N : Int) := Int.emod_lt_of_pos _ (by omega)
      gi_wp2
      refine HR.out.mono ?_
      rintro e W3 (⟨rfl, hJ3, hk3⟩ | ⟨rfl, hJx3⟩)
      · have HC3 := hide (HC.out.keep hk3)
        have HJ3 := hide hJ3
        clear hk3 hJ3 c2 hy2
        have hsum : (s : Int) + (st : Int) < 18446744073709551616 := by omega
        gi_wp2
        go_roundw
        case rel => exact ⟨i + 1, by rw [← HQI.out], by go_num, by omega, HC3.out, by rw [HPS.out]; exact HJ3.out⟩
        case measure => simp [intOf]; omega
      · gi_wp2
        refine bodyPost_ret (results_none rfl _ _ _) rfl ?_
        exact ⟨⟨_, rfl⟩, .inr ⟨_, by rw [← HPS.out]; exact probesF_pre h hN k (i + 1) (by omega), hJx3⟩⟩
    · obtain rfl : i = k := by omega
      gi_wp2
      go_end0
      exact ⟨⟨_, rfl⟩, .inl ⟨_, rfl, HJS.out⟩⟩
/-- What 'places' hands back tells the probes in order, or stops where it is told to. -/
theorem places_stops (n B h N k : Nat) (hn : 1 ≤ n) (hh : h < 18446744073709551616) (hN : 1 ≤ N) (hN2 : N ≤ 8388608) (hk : k ≤ 30) (w : World) (hc : Caught B h N k w) :
    SeqStopsK Fence.wide n Tryz.prog 128 #[.pointer (some ⟨B, 0, none⟩), .pointer (some ⟨B + 2, 0, none⟩), .pointer (some ⟨B + 1, 0, none⟩)] (fun x : Fin N => #[Value.int .i64 (x.val : Nat)]) (Keep3 B) (fun ys => ys = probesF h hN k) (fun pre => pre <+: probesF h hN k) k w := fun l J Jx W hW hJ _ hY h0 =>
  places1_in n l B h N k W.heap.size hn hh hN hN2 hk J Jx hJ hY W (hc.keep (Keep3.of_turns (Turns.of_below hW (fun _ => False)) fun _ _ _ x => x)) h0
end Go.Proofs.YtjklbhdhjfifhaaGreat

/-
  A region that draws its order, inside a round of a range over a function.
-/
namespace Go.Proofs.YtjklbhdhjfifhaaGreat
open Go.RowKit Go.Shelf
def noDefer (o : Oper) : Bool := match o.op with | .defer _ => false | _ => true
theorem noDefer_spec {o : Oper} (h : noDefer o = true) : ∀ c, o.op ≠ .defer c := fun c e => by
  unfold noDefer at h
  rw [e] at h
  cases h
theorem stepsIn_round {P : Program} {l : Nat} {m m' : Machine} (h : Steps P m m') : StepsIn (Machine.fenced P (Fence.wide.inRound l)) P m m' := by
  rw [fenced_inRound]
  exact stepsIn_wide.2 h
section
variable {P : Program} {md : Region.Mode} {ops : Array Oper} {Q : Exit → Act → World → Prop} {l n : Nat}
/-- What a region must come to, if it may neither panic nor grow out. -/
def onlyEnd (Q : Exit → Act → World → Prop) : Exit → Act → World → Prop := fun e a w => e = .normal ∧ Q .normal a w
theorem oper_round {o : Oper} {a : Act} {w : World} {K K' : Act → World → Prop} (hd : ∀ c, o.op ≠ .defer c) (hK : ∀ a w, K a w → K' a w) (h : o.wp P a w K (onlyEnd Q)) : o.wpIn (Fence.wide.inRound l) n P a w K' Q := by
  unfold Oper.wp at h
  refine ⟨fun _ _ => trivial, ?_⟩
  rw [Oper.semAt_plain _ _ _ hd]
  generalize (execOp a.eval o).run P w = r at h
  cases r with
  | ok x w' =>
    cases x with
    | value v => exact hK _ _ h
    | skip => exact hK _ _ h
    | defer d => exact hK _ _ h
    | enter f args =>
      refine ⟨fun e => (by cases e), CallsIn.inRound l (callsIn_wide.2 (Calls.mono h ?_))⟩
      intro e w2 he
      cases e with
      | returned v => exact hK _ _ he
      | panicked ch => cases he.1
      | outgrown => obtain ⟨_, _, he⟩ := he; cases he.1
    | row r args =>
      refine ⟨fun e => (by cases e), fun c cs _ => ?_⟩
      obtain ⟨v, w2, hv, hs⟩ := h c cs
      exact ⟨v, w2, hK _ _ hv, stepsIn_round hs⟩
    | round a b c d e => exact False.elim h
    | _ => exact False.elim h
  | halt x w' =>
    cases x with
    | panic v => cases h.1
    | _ => exact False.elim h
theorem anyIn_of_any (hd : ops.all noDefer = true) : ∀ (fuel : Nat) (listed : Array Bool) (a : Act) (w : World), wpAny P md ops (onlyEnd Q) fuel listed a w → wpAnyIn (Fence.wide.inRound l) n P md ops Q fuel listed a w
  | 0, _, _, _, h => ⟨h.1, h.2.2⟩
  | fuel + 1, listed, a, w, h => by
    refine ⟨fun e => (h.1 e).2, fun i hi => ?_⟩
    have h1 := h.2 i hi
    unfold wpOp at h1
    unfold wpOpIn
    cases e : ops[i]? with
    | none =>
      rw [e] at h1
      exact anyIn_of_any hd fuel _ a w h1
    | some o =>
      rw [e] at h1
      simp only at h1 ⊢
      have hno := noDefer_spec (Array.all_eq_true'.1 hd o (Array.mem_of_getElem? e))
      split at h1
      · rename_i hw
        rw [if_pos hw]
        rcases h1 with h1 | ⟨_, _, _, h1⟩
        · exact oper_round hno (fun a w h => anyIn_of_any hd fuel _ a w h) h1
        · cases h1.1
      · rename_i hw
        rw [if_neg hw]
        exact ⟨fun _ _ => trivial, anyIn_of_any hd fuel _ _ w h1⟩
/-- The beginning: such a region, its loads under a condition. -/
theorem region_round {id : Nat} {S : World → Prop} {a : Act} {w : World} (hm : P.follows .mixedOrders = true) (hd : ops.all noDefer = true)
    (h : wpAnyH P .any ops (onlyEnd Q) S ops.size (Array.replicate ops.size false) a w.drew) : (Code.region id ops true).wpIn (Fence.wide.inRound l) n P Q a w :=
  wpIn_region_any hm (anyIn_of_any hd _ _ _ _ (wpAny_of_held _ _ _ _ h))
end
end Go.Proofs.YtjklbhdhjfifhaaGreat

/-
  A filter's bytes in memory; the marksF that ranges over functions leave.
-/
namespace Go.Proofs.YtjklbhdhjfifhaaGreat
open Go.RowKit Go.Shelf
set_option maxRecDepth 100000
/-- Some keys in memory. -/
def Keys (w : World) (v : Value) (ks : List (List (BitVec 8))) : Prop :=
  ∃ (a : Option Addr) (c : Nat), v = .slice a ks.length c ∧ ∀ (i : Nat) (x : List (BitVec 8)), ks[i]? = some x → ∃ b off ka kc, a = some ⟨b, off, none⟩ ∧ w.cell? ⟨b, off + i, none⟩ = some (.slice ka x.length kc) ∧ Bytes w (.slice ka x.length kc) x
theorem Keys.below {w w' : World} {v : Value} {ks : List (List (BitVec 8))} (h : Keys w v ks) (hb : Below w.heap.size w w') : Keys w' v ks := by
  obtain ⟨a, c, hv, hc⟩ := h
  refine ⟨a, c, hv, fun i x hx => ?_⟩
  obtain ⟨b, off, ka, kc, ha, hcell, hB⟩ := hc i x hx
  exact ⟨b, off, ka, kc, ha, (hb.cell (p := ⟨b, off + i, none⟩) (block_lt_of_cell hcell)).trans hcell, hB.below hb⟩
theorem Keys.len {w : World} {a : Option Addr} {n c : Nat} {ks : List (List (BitVec 8))} (h : Keys w (.slice a n c) ks) : n = ks.length := by
  obtain ⟨a', c', hv, _⟩ := h
  cases hv
  rfl
theorem Keys.at {w : World} {a : Option Addr} {n c : Nat} {ks : List (List (BitVec 8))} (h : Keys w (.slice a n c) ks) (i : Nat) (x : List (BitVec 8)) (hx : ks[i]? = some x) : ∃ b off ka kc, a = some ⟨b, off, none⟩ ∧ w.cell? ⟨b, off + i, none⟩ = some (.slice ka x.length kc) ∧ Bytes w (.slice ka x.length kc) x := by
  obtain ⟨a', c', hv, hc⟩ := h
  cases hv
  exact hc i x hx
/-- A row of bytes that is known whole. -/
def FRow (w : World) (g : Nat) (f : List (BitVec 8)) : Prop := w.heap[g]? = some (.cells (cellsOf f).toArray 5 (0, 0))
theorem FRow.cell {w : World} {g : Nat} {f : List (BitVec 8)} (h : FRow w g f) (i : Nat) (hi : i < f.length) : w.cell? ⟨g, i, none⟩ = some (.int .u8 ((f.getD i 0).toNat : Int)) := by
  rw [cell_of_row w g i _ 5 (0, 0) h]
  simp [cellsOf, hi]
theorem FRow.frozen {w : World} {g : Nat} {f : List (BitVec 8)} (h : FRow w g f) (i : Nat) : w.frozen? ⟨g, i, none⟩ = false := frozen_of_row w g i _ 5 h
theorem FRow.set {w : World} {g : Nat} {f : List (BitVec 8)} (h : FRow w g f) (i : Nat) (x : BitVec 8) : FRow (w.setCell ⟨g, i, none⟩ (.int .u8 (x.toNat : Int))) g (f.set i x) := by
  have := heap_setCell_same w g i _ 5 (.int .u8 (x.toNat : Int)) h
  unfold FRow
  rw [this]
  congr 2
  simp [cellsOf, List.map_set]
theorem FRow.row {w : World} {g c : Nat} {f : List (BitVec 8)} (h : FRow w g f) (hc : c ≤ f.length) : RowB w g c f := ⟨_, h, by simpa [cellsOf] using hc, fun k _ => by simp⟩
theorem heap_own {W W' : World} {row : Option Nat} (hg : W.grownBy W' row) (hr : ∀ r, row = some r → ∃ o : Obj, W.heap[r]? = some o ∧ o.isCells = false) {b : Nat} {cs : Array Value} {t : TypeId} {fr : Nat × Nat} (h : W.heap[b]? = some (.cells cs t fr)) : W'.heap[b]? = some (.cells cs t fr) := by
  refine (hg.block b (lt_of_heap h) fun e => ?_).trans h
  obtain ⟨o, h1, h2⟩ := hr b e.symm
  rw [h] at h1
  cases h1
  cases h2
/-- The marksF of ranges over functions that have ended. -/
def marksF (Ds : List Nat) : List Deferred := Ds.map fun D => { target := .collected D, args := #[] }
def MarksAt (Ds : List Nat) (W : World) : Prop := ∀ D, D ∈ Ds → W.heap[D]? = some (.deferred (some []))
/-- A function with such marksF leaves: its results are read in a world in which the marksF alone have turned. -/
theorem leaves_marks {n : Nat} {P : Program} {fn : Func} {tmps : Array Value} {R : Ending → World → Prop} (g : Nat) : ∀ (Ds : List Nat) (w : World), Ds.Nodup → (∀ D, D ∈ Ds → g ≤ D) → MarksAt Ds w →
    (∀ w', Below g w w' → (∀ (b : Nat) (cs : Array Value) (t : TypeId) (fr : Nat × Nat), w.heap[b]? = some (.cells cs t fr) → w'.heap[b]? = some (.cells cs t fr)) → ∃ v, (results fn tmps).run P w' = .ok v w' ∧ R (.returned v) w') → LeavesInM Fence.wide n P fn tmps R (marksF Ds) .returning w
  | [], w, _, _, _, h => by
    obtain ⟨v, h1, h2⟩ := h w (Below.refl _ _) (fun _ _ _ _ e => e)
    exact ⟨v, h1, h2⟩
  | D :: Ds, w, hn, hg, hm, h => by
    have hD := hm D (List.mem_cons_self ..)
    refine ⟨by simp, .inl ⟨D, _, rfl, run_takeDeferred hD, ?_⟩⟩
    have hlt := lt_of_heap hD
    have hoth : ∀ b, b ≠ D → (w.putObj D (.deferred none)).heap[b]? = w.heap[b]? := fun b hb => World.putObj_heap_other hb
    refine leaves_marks g Ds _ (List.nodup_cons.1 hn).2 (fun D' h' => hg D' (List.mem_cons_of_mem _ h')) (fun D' h' => ?_) (fun w' hb hc => h w' ?_ ?_)
    · rw [hoth D' (fun e => (List.nodup_cons.1 hn).1 (e ▸ h'))]
      exact hm D' (List.mem_cons_of_mem _ h')
    · exact ((Below.refl g w).grown (grownBy_putObj' w D (.deferred none)) (by have := hg D (List.mem_cons_self ..); omega) (fun k e => by cases e; exact hg D (List.mem_cons_self ..))).trans hb
    · intro b cs t fr e
      refine hc b cs t fr ?_
      rw [hoth b (fun x => by rw [x, hD] at e; cases e)]
      exact e
end Go.Proofs.YtjklbhdhjfifhaaGreat
