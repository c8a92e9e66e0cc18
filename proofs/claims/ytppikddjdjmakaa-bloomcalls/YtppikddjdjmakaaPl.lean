/-
  The places of a key's probes, one by one.
-/
import Derived.Test.YtppikddjdjmakaaH2
import Derived.RangeFuncNested
import Derived.RangeFuncBound
import Derived.RangeFuncCalls
import Derived.RangeFuncLeaves
import Derived.Shelf.Abstract
import Derived.Shelf.RegionOpen
import Derived.OwnWalkIn
import Derived.TacticsInMore
import Derived.LoopNIn
import Derived.LoopIn
import Derived.Sort.QuietIn
namespace Go.Proofs.Ytppikddjdjmakaa
open Go.RowKit Go.Shelf
set_option maxRecDepth 100000
set_option maxHeartbeats 4000000
attribute [local go_sem] Oper.semAt_some
/-- Three cells of one's own are kept. -/
def Keep3 (B : Nat) (W W' : World) : Prop := ∀ b, B ≤ b → b < B + 3 → ∀ cs t fr, W.heap[b]? = some (.cells cs t fr) → W'.heap[b]? = some (.cells cs t fr)
theorem Keep3.trans {B : Nat} {X Y Z : World} (h : Keep3 B X Y) (k : Keep3 B Y Z) : Keep3 B X Z := fun b h1 h2 cs t fr e => k b h1 h2 cs t fr (h b h1 h2 cs t fr e)
theorem Keep3.put {B : Nat} (W : World) (l : Nat) (o o' : Obj) (ho : W.heap[l]? = some o) (hc : o.isCells = false) : Keep3 B W (W.putObj l o') := by
  intro b _ _ cs t fr e
  have hb : b ≠ l := fun x => by rw [x, ho] at e; cases e; cases hc
  rw [World.putObj_heap_other hb]
  exact e
theorem Keep3.of_turns {S : Nat → Prop} {B : Nat} {W W' : World} (h : Turns S W W') (hS : ∀ b, B ≤ b → b < B + 3 → ¬ S b) : Keep3 B W W' := fun b h1 h2 _ _ _ e => h.heap e (hS b h1 h2)
/-- What the closure holds. -/
def Caught (B h N k : Nat) (w : World) : Prop := w.heap[B]? = some (.cells #[.int .u64 (h : Nat)] 31 (0, 0)) ∧ w.heap[B + 1]? = some (.cells #[.int .i64 (N : Nat)] 3 (0, 0)) ∧ w.heap[B + 2]? = some (.cells #[.int .i64 (k : Nat)] 3 (0, 0))
theorem Caught.keep {B h N k : Nat} {W W' : World} (hc : Caught B h N k W) (hk : Keep3 B W W') : Caught B h N k W' :=
  ⟨hk _ (by omega) (by omega) _ _ _ hc.1, hk _ (by omega) (by omega) _ _ _ hc.2.1, hk _ (by omega) (by omega) _ _ _ hc.2.2⟩
theorem places_any (h N k : Nat) (w : World) : Calls Try.prog 24 #[.int .u64 (h : Nat), .int .i64 (N : Nat), .int .i64 (k : Nat)] w fun e w' => e = .returned (.func (.func 28) #[] #[.pointer (some ⟨w.heap.size, 0, none⟩), .pointer (some ⟨w.heap.size + 2, 0, none⟩), .pointer (some ⟨w.heap.size + 1, 0, none⟩)]) ∧ w' = ((w.alloc (.cells #[.int .u64 (h : Nat)] 31)).alloc (.cells #[.int .i64 (N : Nat)] 3)).alloc (.cells #[.int .i64 (k : Nat)] 3) := by
  go_enter Try.func24, Try.ntmps24
  go_wp2_with fail
  go_ret
  exact ⟨rfl, rfl⟩
theorem caught_new (h N k : Nat) (w : World) : Caught w.heap.size h N k (((w.alloc (.cells #[.int .u64 (h : Nat)] 31)).alloc (.cells #[.int .i64 (N : Nat)] 3)).alloc (.cells #[.int .i64 (k : Nat)] 3)) := by
  have b1 : Below (w.heap.size + 1) (w.alloc (.cells #[.int .u64 (h : Nat)] 31)) (((w.alloc (.cells #[.int .u64 (h : Nat)] 31)).alloc (.cells #[.int .i64 (N : Nat)] 3)).alloc (.cells #[.int .i64 (k : Nat)] 3)) := ((Below.refl _ _).alloc (by simp) _).alloc (by simp) _
  have b2 : Below (w.heap.size + 2) ((w.alloc (.cells #[.int .u64 (h : Nat)] 31)).alloc (.cells #[.int .i64 (N : Nat)] 3)) (((w.alloc (.cells #[.int .u64 (h : Nat)] 31)).alloc (.cells #[.int .i64 (N : Nat)] 3)).alloc (.cells #[.int .i64 (k : Nat)] 3)) := (Below.refl _ _).alloc (by simp) _
  refine ⟨(b1.block _ (by omega)).trans (heap_alloc_new w _), (b2.block _ (by omega)).trans ?_, ?_⟩
  · have := heap_alloc_new (w.alloc (.cells #[.int .u64 (h : Nat)] 31)) (.cells #[.int .i64 (N : Nat)] 3)
    rwa [World.size_alloc] at this
  · have := heap_alloc_new ((w.alloc (.cells #[.int .u64 (h : Nat)] 31)).alloc (.cells #[.int .i64 (N : Nat)] 3)) (.cells #[.int .i64 (k : Nat)] 3)
    rwa [World.size_alloc, World.size_alloc] at this
theorem low_q (h : Nat) (hh : h < 18446744073709551616) : bits .and .u64 (h : Int) 4294967295 = ((sumN h 0 : Nat) : Int) := by
  have e := and_q (BitVec.ofNat 64 h) 4294967295#64
  rw [BitVec.toNat_ofNat, Nat.mod_eq_of_lt hh] at e
  rw [show (4294967295 : Int) = ((4294967295#64).toNat : Int) from rfl, e, BitVec.toNat_and, BitVec.toNat_ofNat, Nat.mod_eq_of_lt hh, sumN_zero]
  congr 1
  exact Nat.and_two_pow_sub_one_eq_mod h 32
theorem stp_q (h : Nat) (hh : h < 18446744073709551616) : bits .or .u64 ((h : Int) / 4294967296) 1 = ((stp h : Nat) : Int) := by
  have hd : h / 4294967296 < 18446744073709551616 := by omega
  have e := or_q (BitVec.ofNat 64 (h / 4294967296)) 1#64
  rw [BitVec.toNat_ofNat, Nat.mod_eq_of_lt hd] at e
  rw [show (h : Int) / 4294967296 = ((h / 4294967296 : Nat) : Int) from by omega, show (1 : Int) = ((1#64).toNat : Int) from rfl, e, BitVec.toNat_or, BitVec.toNat_ofNat, Nat.mod_eq_of_lt hd]
  rfl
theorem next_q (h i : Nat) (hh : h < 18446744073709551616) : bits .and .u64 (((sumN h i : Nat) : Int) + ((stp h : Nat) : Int)) 4294967295 = ((sumN h (i + 1) : Nat) : Int) := by
  have h1 := sumN_lt h i
  have h2 := stp_lt h hh
  have hd : sumN h i + stp h < 18446744073709551616 := by omega
  have e := and_q (BitVec.ofNat 64 (sumN h i + stp h)) 4294967295#64
  rw [BitVec.toNat_ofNat, Nat.mod_eq_of_lt hd] at e
  rw [← Int.natCast_add, show (4294967295 : Int) = ((4294967295#64).toNat : Int) from rfl, e, BitVec.toNat_and, BitVec.toNat_ofNat, Nat.mod_eq_of_lt hd, sumN_succ]
  congr 1
  exact Nat.and_two_pow_sub_one_eq_mod _ 32
/-- The probes, each below N. -/
def probesF (h : Nat) {N : Nat} (hN : 1 ≤ N) (k : Nat) : List (Fin N) := (List.range k).map fun i => ⟨prb h N i, prb_lt h N i hN⟩
theorem probesF_val (h : Nat) {N : Nat} (hN : 1 ≤ N) (k : Nat) : (probesF h hN k).map (·.val) = probes h N k := by simp [probesF, probes]
theorem probesF_length (h : Nat) {N : Nat} (hN : 1 ≤ N) (k : Nat) : (probesF h hN k).length = k := by simp [probesF]
theorem probesF_succ (h : Nat) {N : Nat} (hN : 1 ≤ N) (k : Nat) : probesF h hN (k + 1) = probesF h hN k ++ [⟨prb h N k, prb_lt h N k hN⟩] := by simp [probesF, List.range_succ]
theorem probesF_pre (h : Nat) {N : Nat} (hN : 1 ≤ N) (k i : Nat) (hi : i ≤ k) : probesF h hN i <+: probesF h hN k := by
  unfold probesF
  refine List.IsPrefix.map _ ?_
  refine ⟨(List.range (k - i)).map (i + ·), ?_⟩
  rw [← List.range_add, show i + (k - i) = k by omega]
theorem places1_in (n l B h N k BJ : Nat) (hn : 1 ≤ n) (hh : h < 18446744073709551616) (hN : 1 ≤ N) (hN2 : N ≤ 8388608) (hk : k ≤ 30) (J Jx : List (Fin N) → World → Prop)
    (hJ : AbidesFrom BJ J)
    (hY : ∀ pre (x : Fin N) W, J pre W → pre.length < k → YieldAt Fence.wide (n - 1) Try.prog l #[.int .i64 (x.val : Nat)] W fun e W' =>
      (e = .returned (.bool true) ∧ J (pre ++ [x]) W' ∧ Keep3 B W W') ∨ (e = .returned (.bool false) ∧ Jx (pre ++ [x]) W'))
    (W : World) (hc : Caught B h N k W) (h0 : J [] W) :
    CallsIn Fence.wide n Try.prog 28 #[.func (.yield l) #[] #[], .pointer (some ⟨B, 0, none⟩), .pointer (some ⟨B + 2, 0, none⟩), .pointer (some ⟨B + 1, 0, none⟩)] W fun e W' => (∃ v, e = .returned v) ∧
      ((∃ ys, ys = probesF h hN k ∧ J ys W') ∨ (∃ pre, pre <+: probesF h hN k ∧ Jx pre W')) := by
  have HC := hide hc
  have HY := hide hY
  have HJ0 := hide h0
  have c1 : W.cell? ⟨B, 0, none⟩ = some (.int .u64 (h : Nat)) := cell_of_row W _ 0 _ 31 (0, 0) hc.1
  have c3 : W.cell? ⟨B + 2, 0, none⟩ = some (.int .i64 (k : Nat)) := cell_of_row W _ 0 _ 3 (0, 0) hc.2.2
  have q1 := low_q h hh
  have q2 := stp_q h hh
  have hst := stp_lt h hh
  have HQ := hide (fun i => next_q h i hh)
  clear hY h0 hc
  generalize hS0 : sumN h 0 = s0 at *
  generalize hS : stp h = st at *
  have HS0 := hide hS0
  have HS := hide hS
  clear hS0 hS
  refine callsIn_of_wp Try.func28 rfl trivial ?_ rfl
  simp only [Try.ntmps28, List.size_toArray, List.length_cons, List.length_nil, Nat.reduceAdd, Nat.reduceSub, Array.replicate_succ, Array.replicate_zero, List.push_toArray, List.append_toArray, List.nil_append, List.cons_append]
  gi_wp2
  gi_quiet (fail)
  gi_wp2
  have HCQ := hide (show Caught B h N k (W.drewN nq) from HC.out)
  have HJQ := hide (hJ _ W (W.drewN nq) none HJ0.out ⟨rfl, rfl, rfl, Nat.le_refl _, fun _ _ _ => rfl⟩ (fun r e => by cases e))
  clear c1 c3 q1 q2 HC HJ0
  gi_loopw [5, 13] (fun s x wr => ∃ i : Nat, s = .int .u64 (sumN h i : Nat) ∧ x = .int .i64 (i : Nat) ∧ i ≤ k ∧ Caught B h N k wr ∧ J (probesF h hN i) wr) (fun _ x _ => k - (intOf x).toNat)
  case atStart => exact ⟨0, by rw [HS0.out], rfl, Nat.zero_le _, HCQ.out, HJQ.out⟩
  case round =>
    obtain ⟨i, rfl, rfl, hi, hc, hJs⟩ := hrel
    have HC := hide hc
    have HJS := hide hJs
    have c2 : wr.cell? ⟨B + 1, 0, none⟩ = some (.int .i64 (N : Nat)) := cell_of_row wr _ 0 _ 3 (0, 0) hc.2.1
    have hlt := sumN_lt h i
    have HPB := hide (show ((sumN h i : Nat) : Int) % (N : Int) = ((prb h N i : Nat) : Int) by unfold prb; omega)
    have HPS := hide (probesF_succ h hN i)
    have hpl := prb_lt h N i (by omega)
    have HPL := hide (probesF_length h hN i)
    have HQI := hide (HQ.out i)
    clear hc hJs
    by_cases hik : i < k
    · have i1 : (i : Int) < (k : Int) := by omega
      obtain ⟨fn, tmps, assign, body, hy, hR⟩ := HY.out (probesF h hN i) ⟨prb h N i, prb_lt h N i hN⟩ wr HJS.out (by rw [HPL.out]; exact hik)
      have hy2 := hy
      simp only at hy2
      rw [← HPB.out] at hy2
      clear hy
      have HR := hide hR
      clear hR
      generalize sumN h i = s at *
      have hn0 : ¬ (N : Int) = 0 := by omega
      have hn1 : ¬ N = 0 := by omega
      have hm0 : (0 : Int) ≤ (s : Int) % (N : Int) := Int.emod_nonneg _ hn0
      have hm1 : (s : Int) % (N : Int) < (N : Int) := Int.emod_lt_of_pos _ (by omega)
      gi_wp2
      refine HR.out.mono ?_
      rintro e W3 (⟨rfl, hJ3, hk3⟩ | ⟨rfl, hJx3⟩)
      · have HC3 := hide (HC.out.keep hk3)
        have HJ3 := hide hJ3
        clear hk3 hJ3 c2 hy2
        have hsum : (s : Int) + (st : Int) < 18446744073709551616 := by omega
        gi_wp2
        go_roundw
        case rel => exact ⟨i + 1, by rw [← HQI.out], by go_num, by omega, HC3.out, by rw [HPS.out]; exact HJ3.out⟩
        case measure => simp [intOf]; omega
      · gi_wp2
        refine bodyPost_ret (results_none rfl _ _ _) rfl ?_
        exact ⟨⟨_, rfl⟩, .inr ⟨_, by rw [← HPS.out]; exact probesF_pre h hN k (i + 1) (by omega), hJx3⟩⟩
    · obtain rfl : i = k := by omega
      gi_wp2
      go_end0
      exact ⟨⟨_, rfl⟩, .inl ⟨_, rfl, HJS.out⟩⟩
/-- What 'places' hands back tells the probes in order, or stops where it is told to. -/
theorem places_stops (n B h N k : Nat) (hn : 1 ≤ n) (hh : h < 18446744073709551616) (hN : 1 ≤ N) (hN2 : N ≤ 8388608) (hk : k ≤ 30) (w : World) (hc : Caught B h N k w) :
    SeqStopsK Fence.wide n Try.prog 28 #[.pointer (some ⟨B, 0, none⟩), .pointer (some ⟨B + 2, 0, none⟩), .pointer (some ⟨B + 1, 0, none⟩)] (fun x : Fin N => #[Value.int .i64 (x.val : Nat)]) (Keep3 B) (fun ys => ys = probesF h hN k) (fun pre => pre <+: probesF h hN k) k w := fun l J Jx W hW hJ _ hY h0 =>
  places1_in n l B h N k W.heap.size hn hh hN hN2 hk J Jx hJ hY W (hc.keep (Keep3.of_turns (Turns.of_below hW (fun _ => False)) fun _ _ _ x => x)) h0
end Go.Proofs.Ytppikddjdjmakaa
