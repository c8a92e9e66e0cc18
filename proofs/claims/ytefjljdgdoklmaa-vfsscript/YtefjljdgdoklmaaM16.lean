import Derived.Test.YtefjljdgdoklmaaM15
import Derived.Test.YtefjljdgdoklmaaM03
/-
  The document's guard.
-/
namespace Go.Proofs.Ytefjljdgdoklmaa
open Go.RowKit Go.Maps

set_option maxRecDepth 100000 in
set_option maxHeartbeats 1000000 in
theorem rop_off (q : Nat) (limit fuse fault fail n : Int) (sy ch : Value) (w : World) (h : w.heap[q]? = some (.cells (rfCells limit sy ch true fuse fault fail n) 84 (0, 0))) :
    Calls Try.prog 80 #[.pointer (some ⟨q, 0, none⟩)] w fun e w' => e = .returned (.int .i64 9) ∧ w' = w := by
  have c3 : w.cell? ⟨q, 3, none⟩ = some (.bool true) := cell_of_row w q 3 _ 84 (0, 0) h
  clear h
  go_enter Try.func80, Try.ntmps80
  go_wp2_with fail
  go_ret
  exact ⟨rfl, rfl⟩

theorem tick_neg {n : Int} (h : n < 0) : tick n = n := by unfold tick; rw [if_pos h]
theorem tick_pos {n : Int} (h : 0 < n) : tick n = n - 1 := by unfold tick; rw [if_neg (by omega)]
/-- What the guard answers. -/
def opZ (fuse fault fail : Int) : Int := if fuse = 0 then 9 else if fault = 0 then fail else 0

set_option maxRecDepth 100000 in
set_option maxHeartbeats 4000000 in
theorem rop_on (q : Nat) (limit fuse fault fail n : Int) (sy ch : Value) (w : World) (h : w.heap[q]? = some (.cells (rfCells limit sy ch false fuse fault fail n) 84 (0, 0))) (h7 : 0 ≤ n ∧ n ≤ 1000000) (h8 : fuse ≤ 9223372036854775807) (h9 : fault ≤ 9223372036854775807) :
    Calls Try.prog 80 #[.pointer (some ⟨q, 0, none⟩)] w fun e w' => e = .returned (.int .i64 (opZ fuse fault fail)) ∧ Tick w w' q 84 (rfCells limit sy ch (decide (fuse = 0)) (tick fuse) (tick fault) fail (n + 1)) := by
  have c3 : w.cell? ⟨q, 3, none⟩ = some (.bool false) := cell_of_row w q 3 _ 84 (0, 0) h
  have c4 : w.cell? ⟨q, 4, none⟩ = some (.int .i64 fuse) := cell_of_row w q 4 _ 84 (0, 0) h
  have c5 : w.cell? ⟨q, 5, none⟩ = some (.int .i64 fault) := cell_of_row w q 5 _ 84 (0, 0) h
  have c6 : w.cell? ⟨q, 6, none⟩ = some (.int .i64 fail) := cell_of_row w q 6 _ 84 (0, 0) h
  have c7 : w.cell? ⟨q, 7, none⟩ = some (.int .i64 n) := cell_of_row w q 7 _ 84 (0, 0) h
  have z3 : w.frozen? ⟨q, 3, none⟩ = false := frozen_of_row w q 3 _ 84 h
  have z4 : w.frozen? ⟨q, 4, none⟩ = false := frozen_of_row w q 4 _ 84 h
  have z5 : w.frozen? ⟨q, 5, none⟩ = false := frozen_of_row w q 5 _ 84 h
  have z7 : w.frozen? ⟨q, 7, none⟩ = false := frozen_of_row w q 7 _ 84 h
  have T0 := hide ((Tick.refl h).set 7 (.int .i64 (n + 1)))
  clear h
  go_enter Try.func80, Try.ntmps80
  go_wp2_with fail
  have T1 : ∀ m, Hid (Tick w ((w.setCell ⟨q, 7, none⟩ (.int .i64 (n + 1))).drewN m) q 84 (rfCells limit sy ch false fuse fault fail (n + 1))) := fun m => by
    have := T0.out
    exact ⟨this.1, this.2.1, this.2.2.1, fun B hB => below_drewN (this.2.2.2 B hB) m⟩
  go_quiet (fail)
  have TN := T1 nq
  clear T1 T0 c3 c4 c5 c6 c7 z3 z4 z5 z7
  generalize (w.setCell ⟨q, 7, none⟩ (.int .i64 (n + 1))).drewN nq = w1 at *
  have c3 : w1.cell? ⟨q, 3, none⟩ = some (.bool false) := TN.out.cell 3
  have c4 : w1.cell? ⟨q, 4, none⟩ = some (.int .i64 fuse) := TN.out.cell 4
  have c5 : w1.cell? ⟨q, 5, none⟩ = some (.int .i64 fault) := TN.out.cell 5
  have c6 : w1.cell? ⟨q, 6, none⟩ = some (.int .i64 fail) := TN.out.cell 6
  have z3 := TN.out.frozen 3
  have z4 := TN.out.frozen 4
  have z5 := TN.out.frozen 5
  have hcase : (fuse < 0 ∨ fuse = 0 ∨ 0 < fuse) ∧ (fault < 0 ∨ fault = 0 ∨ 0 < fault) := by omega
  obtain ⟨hf | hf | hf, hg | hg | hg⟩ := hcase
  all_goals
    have HF := hide hf
    have HG := hide hg
    try have p1 : ¬ (0 : Int) ≤ fuse := by omega
    try have p2 : (0 : Int) ≤ fuse := by omega
    try have p3 : ¬ (0 : Int) ≤ fault := by omega
    try have p4 : (0 : Int) ≤ fault := by omega
    try have p5 : (fuse == 0) = false := by rw [beq_eq_false_iff_ne]; omega
    try have p6 : (fault == 0) = false := by rw [beq_eq_false_iff_ne]; omega
    try subst hf
    try subst hg
    go_wp2_with fail
  · go_ret
    refine ⟨?_, ?_⟩
    · rw [show opZ fuse fault fail = 0 from by unfold opZ; rw [if_neg (by have := HF.out; omega), if_neg (by have := HG.out; omega)]]
      rfl
    · rw [show decide ((fuse : Int) = 0) = false from decide_eq_false (by have := HF.out; omega), show tick fuse = fuse from tick_neg HF.out, show tick fault = fault from tick_neg HG.out]
      exact TN.out
  · go_ret
    refine ⟨?_, ?_⟩
    · rw [show opZ fuse 0 fail = fail from by unfold opZ; rw [if_neg (by have := HF.out; omega), if_pos rfl]]
      rfl
    · rw [show decide ((fuse : Int) = 0) = false from decide_eq_false (by have := HF.out; omega), show tick fuse = fuse from tick_neg HF.out, show tick 0 = -1 from rfl]
      exact (TN.out.set 5 (.int .i64 (-1)))
  · go_ret
    refine ⟨?_, ?_⟩
    · rw [show opZ fuse fault fail = 0 from by unfold opZ; rw [if_neg (by have := HF.out; omega), if_neg (by have := HG.out; omega)]]
      rfl
    · rw [show decide ((fuse : Int) = 0) = false from decide_eq_false (by have := HF.out; omega), show tick fuse = fuse from tick_neg HF.out, show tick fault = fault - 1 from tick_pos HG.out]
      exact (TN.out.set 5 (.int .i64 (fault - 1)))
  · go_ret
    refine ⟨?_, ?_⟩
    · rw [show opZ 0 fault fail = 9 from rfl]
      rfl
    · rw [show tick 0 = -1 from rfl, show tick fault = fault from tick_neg HG.out]
      exact ((TN.out.set 4 (.int .i64 (-1))).set 3 (.bool true))
  · go_ret
    refine ⟨?_, ?_⟩
    · rw [show opZ 0 0 fail = 9 from rfl]
      rfl
    · rw [show tick 0 = -1 from rfl]
      exact (((TN.out.set 4 (.int .i64 (-1))).set 5 (.int .i64 (-1))).set 3 (.bool true))
  · go_ret
    refine ⟨?_, ?_⟩
    · rw [show opZ 0 fault fail = 9 from rfl]
      rfl
    · rw [show tick 0 = -1 from rfl, show tick fault = fault - 1 from tick_pos HG.out]
      exact (((TN.out.set 4 (.int .i64 (-1))).set 5 (.int .i64 (fault - 1))).set 3 (.bool true))
  · go_ret
    refine ⟨?_, ?_⟩
    · rw [show opZ fuse fault fail = 0 from by unfold opZ; rw [if_neg (by have := HF.out; omega), if_neg (by have := HG.out; omega)]]
      rfl
    · rw [show decide ((fuse : Int) = 0) = false from decide_eq_false (by have := HF.out; omega), show tick fuse = fuse - 1 from tick_pos HF.out, show tick fault = fault from tick_neg HG.out]
      exact (TN.out.set 4 (.int .i64 (fuse - 1)))
  · go_ret
    refine ⟨?_, ?_⟩
    · rw [show opZ fuse 0 fail = fail from by unfold opZ; rw [if_neg (by have := HF.out; omega), if_pos rfl]]
      rfl
    · rw [show decide ((fuse : Int) = 0) = false from decide_eq_false (by have := HF.out; omega), show tick fuse = fuse - 1 from tick_pos HF.out, show tick 0 = -1 from rfl]
      exact ((TN.out.set 4 (.int .i64 (fuse - 1))).set 5 (.int .i64 (-1)))
  · go_ret
    refine ⟨?_, ?_⟩
    · rw [show opZ fuse fault fail = 0 from by unfold opZ; rw [if_neg (by have := HF.out; omega), if_neg (by have := HG.out; omega)]]
      rfl
    · rw [show decide ((fuse : Int) = 0) = false from decide_eq_false (by have := HF.out; omega), show tick fuse = fuse - 1 from tick_pos HF.out, show tick fault = fault - 1 from tick_pos HG.out]
      exact ((TN.out.set 4 (.int .i64 (fuse - 1))).set 5 (.int .i64 (fault - 1)))

theorem rop_rep (A : Nat → Prop) (q : Nat) (r : RDisk) (w : World) (bs : Nat) (ch : Value) (fv : Nat → Value) (h : RRepAt A w q r bs ch fv) (hn : RNum r) :
    Calls Try.prog 80 #[.pointer (some ⟨q, 0, none⟩)] w fun e w' => e = .returned (.int .i64 r.op.1) ∧ RRepAt A w' q r.op.2 bs ch fv ∧ Turns (fun k => k = q) w w' := by
  have hc := h.cells
  unfold RDisk.cells at hc
  cases hoff : r.off with
  | true =>
    have ho : r.op = (9, r) := by unfold RDisk.op; rw [if_pos hoff]
    rw [hoff] at hc
    refine (rop_off q r.limit r.fuse r.fault r.fail r.n _ ch w hc).mono ?_
    rintro e w' ⟨rfl, rfl⟩
    rw [ho]
    exact ⟨rfl, h, Turns.refl _ _⟩
  | false =>
    rw [hoff] at hc
    refine (rop_on q r.limit r.fuse r.fault r.fail r.n _ ch w hc hn.n hn.fuse.2 hn.fault.2).mono ?_
    rintro e w' ⟨rfl, t⟩
    have hoff' : ¬ r.off = true := by rw [hoff]; decide
    unfold opZ at *
    by_cases h8 : r.fuse = 0
    · have ho : r.op = (9, { r.tick with off := true }) := by unfold RDisk.op; rw [if_neg hoff', if_pos h8]
      rw [ho, if_pos h8]
      rw [decide_eq_true h8] at t
      exact ⟨rfl, h.turn (Turns.of_tick t) t.1 rfl rfl rfl, Turns.of_tick t⟩
    · rw [decide_eq_false h8] at t
      rw [if_neg h8]
      by_cases h9 : r.fault = 0
      · have ho : r.op = (r.fail, r.tick) := by unfold RDisk.op; rw [if_neg hoff', if_neg h8, if_pos h9]
        rw [ho, if_pos h9]
        refine ⟨rfl, h.turn (Turns.of_tick t) ?_ rfl rfl rfl, Turns.of_tick t⟩
        rw [t.1, RDisk.cells, RDisk.tick, hoff]
      · have ho : r.op = (0, r.tick) := by unfold RDisk.op; rw [if_neg hoff', if_neg h8, if_neg h9]
        rw [ho, if_neg h9]
        refine ⟨rfl, h.turn (Turns.of_tick t) ?_ rfl rfl rfl, Turns.of_tick t⟩
        rw [t.1, RDisk.cells, RDisk.tick, hoff]
end Go.Proofs.Ytefjljdgdoklmaa

/-
  Lists of texts, and how they are compared.
-/
namespace Go.Proofs.Ytefjljdgdoklmaa
open Go.RowKit

/-- Texts in a slice. -/
def Strs (w : World) (a : Option Addr) (n : Nat) (ss : List ByteArray) : Prop :=
  n = ss.length ∧ ∀ k, k < n → ∃ q o, a = some ⟨q, o, none⟩ ∧ w.cell? ⟨q, o + k, none⟩ = some (.string (ss.getD k ⟨#[]⟩))
theorem Strs.keep {S : Nat → Prop} {w w' : World} {a : Option Addr} {n : Nat} {ss : List ByteArray} (h : Strs w a n ss) (t : Turns S w w') (ha : ∀ q o, a = some ⟨q, o, none⟩ → ¬ S q) : Strs w' a n ss := by
  refine ⟨h.1, fun k hk => ?_⟩
  obtain ⟨q, o, e1, e2⟩ := h.2 k hk
  exact ⟨q, o, e1, t.cell e2 (ha q o e1)⟩

set_option maxRecDepth 100000 in
set_option maxHeartbeats 1000000 in
/-- The same texts are found the same. -/
theorem strings_same (a a' : Option Addr) (n c c' : Nat) (ss : List ByteArray) (w : World) (h : Strs w a n ss) (h' : Strs w a' n ss) (hn : n ≤ 1000000000) :
    Calls Try.prog 16 #[.slice a n c, .slice a' n c'] w fun e w' => e = .returned (.bool true) ∧ ∃ m, w' = w.drewN m := by
  have H := hide h
  have H' := hide h'
  clear h h'
  go_enter Try.func16, Try.ntmps16
  go_wp2
  go_loopw [5] (fun i wr => ∃ k : Nat, i = .int .i64 (k : Nat) ∧ k ≤ n ∧ ∃ m, wr = w.drewN m) (fun i _ => n - (intOf i).toNat)
  case atStart => exact ⟨0, rfl, Nat.zero_le _, 0, rfl⟩
  case round =>
    obtain ⟨k, rfl, hk, m, rfl⟩ := hrel
    by_cases hkn : k < n
    · obtain ⟨b, off, rfl, h1⟩ := H.out.2 k hkn
      obtain ⟨b', off', rfl, h2⟩ := H'.out.2 k hkn
      generalize hx : ss.getD k ⟨#[]⟩ = x at *
      clear hx
      have i1 : (k : Int) < (n : Int) := by omega
      have i0 : (0 : Int) ≤ (k : Int) := by omega
      go_wp2_with fail
      go_quiet (fail)
      go_wp2
      go_roundw
      case rel => exact ⟨k + 1, by go_num, by omega, _, rfl⟩
      case measure => simp [intOf]; omega
    · obtain rfl : k = n := by omega
      go_wp2
      go_ret
      exact ⟨rfl, m, rfl⟩
end Go.Proofs.Ytefjljdgdoklmaa

/-
  The document's guard of an operation with names.
-/
namespace Go.Proofs.Ytefjljdgdoklmaa
open Go.RowKit Go.Maps

def RDisk.begin (r : RDisk) (right : Bool) : Int × RDisk := if right = true then r.op else (2, r)

set_option maxRecDepth 100000 in
set_option maxHeartbeats 2000000 in
theorem rbegin_rep (A : Nat → Prop) (q : Nat) (r : RDisk) (a : Option Addr) (n c : Nat) (ss : List ByteArray) (w : World) (bs : Nat) (ch : Value) (fv : Nat → Value) (h : RRepAt A w q r bs ch fv) (hn : RNum r) (hs : Strs w a n ss) (hn2 : n ≤ 1000) (hsz : ∀ s, s ∈ ss → s.size ≤ 1000) :
    Calls Try.prog 78 #[.pointer (some ⟨q, 0, none⟩), .slice a n c] w fun e w' => e = .returned (.int .i64 (r.begin (ss.all goodN)).1) ∧ RRepAt A w' q (r.begin (ss.all goodN)).2 bs ch fv ∧ Turns (fun k => k = q) w w' := by
  have H := hide h
  have HN := hide hn
  have HS := hide hs
  have HZ := hide hsz
  clear h hn hs hsz
  go_enter Try.func78, Try.ntmps78
  go_wp2_with fail
  go_loopw [5] (fun iv wr => ∃ i : Nat, iv = .int .i64 (i : Nat) ∧ i ≤ n ∧ (∀ s, s ∈ ss.take i → goodN s = true) ∧ wr = w) (fun iv _ => n - (intOf iv).toNat)
  case atStart => exact ⟨0, rfl, Nat.zero_le _, fun s hs => by simp at hs, rfl⟩
  case round =>
    obtain ⟨i, rfl, hi, hall, rfl⟩ := hrel
    have HALL := hide hall
    clear hall
    have hnl : n = ss.length := HS.out.1
    by_cases hin : i < n
    · obtain ⟨b, off, rfl, h1⟩ := HS.out.2 i hin
      have hil : i < ss.length := by omega
      have hgd : ss.getD i ⟨#[]⟩ = ss[i] := by rw [List.getD_eq_getElem?_getD, List.getElem?_eq_getElem hil, Option.getD_some]
      rw [hgd] at h1
      have hmem : ss[i] ∈ ss := List.getElem_mem hil
      have hz := HZ.out _ hmem
      have hst : ∀ s, s ∈ ss.take (i + 1) → s ∈ ss.take i ∨ s = ss[i] := fun s hs => by
        rw [List.take_add_one, List.getElem?_eq_getElem hil, Option.toList_some, List.mem_append, List.mem_singleton] at hs
        exact hs
      have HST := hide hst
      have HM := hide hmem
      clear hst hgd hmem hnl
      generalize ss[i] = s0 at *
      have i1 : (i : Int) < (n : Int) := by omega
      have i0 : (0 : Int) ≤ (i : Int) := by omega
      go_wp2_with fail
      refine (rname_any s0 _ hz).mono ?_
      rintro e w1 ⟨rfl, rfl⟩
      cases hg : goodN s0 with
      | true =>
        have HG := hide hg
        clear hg
        go_wp2_with fail
        go_roundw
        case rel =>
          refine ⟨i + 1, by go_num, by omega, fun s hs => ?_, by trivial⟩
          rcases HST.out s hs with hs | rfl
          · exact HALL.out s hs
          · exact HG.out
        case measure => simp [intOf]; omega
      | false =>
        have hb : ss.all goodN = false := by
          rw [Bool.eq_false_iff]
          intro e
          have := List.all_eq_true.1 e s0 HM.out
          rw [hg] at this
          cases this
        have HB := hide hb
        clear hb hg
        go_wp2_with fail
        go_ret
        rw [HB.out]
        exact ⟨rfl, H.out, Turns.refl _ _⟩
    · obtain rfl : i = n := by omega
      have hg : ss.all goodN = true := List.all_eq_true.2 fun s hs => HALL.out s (by rw [hnl, List.take_length]; exact hs)
      have HG := hide hg
      clear hg hnl
      go_wp2_with fail
      refine (rop_rep A q r _ bs ch fv H.out HN.out).mono ?_
      rintro e w1 ⟨rfl, r1, t1⟩
      have R1 := hide r1
      have T1 := hide t1
      clear r1 t1
      go_wp2_with fail
      go_ret
      rw [HG.out]
      exact ⟨rfl, R1.out, T1.out⟩
theorem strs_one (w : World) (s : ByteArray) : Strs (w.alloc (.cells #[.string s] 9)) (some ⟨w.heap.size, 0, none⟩) 1 [s] :=
  ⟨rfl, fun k hk => ⟨w.heap.size, 0, rfl, by
    obtain rfl : k = 0 := by omega
    exact cell_of_row _ _ 0 _ 9 (0, 0) (heap_alloc_new w _)⟩⟩
theorem strs_two (w : World) (s t : ByteArray) : Strs (w.alloc (.cells #[.string s, .string t] 9)) (some ⟨w.heap.size, 0, none⟩) 2 [s, t] :=
  ⟨rfl, fun k hk => ⟨w.heap.size, 0, rfl, by
    have : k = 0 ∨ k = 1 := by omega
    rcases this with rfl | rfl
    · exact cell_of_row _ _ 0 _ 9 (0, 0) (heap_alloc_new w _)
    · exact cell_of_row _ _ 1 _ 9 (0, 0) (heap_alloc_new w _)⟩⟩
end Go.Proofs.Ytefjljdgdoklmaa

/-
  The document's Create and Sync.
-/
namespace Go.Proofs.Ytefjljdgdoklmaa
open Go.RowKit Go.Maps

theorem zero92 (w : World) : (zeroValue 92).run Try.prog w = .ok (.pointer none) w := by kernel_rfl
theorem Dir.look81 {w : World} {b n : Nat} {D : DataW Unit} (h : Dir w b n D) (s : ByteArray) (hs : s.size ≤ maxLen) :
    (Instr.lookup 81 (.map (some b)) (.string s) false).run Try.prog w = .ok (ptrOf (fileOf D s)) w := by
  obtain ⟨v, ps, hr, hv⟩ := World.ownsMap.lookup h law9 Try.underlying81 (zero92 w) ptrR_none (keyOf9 s hs)
  have : v = ptrOf (fileOf D s) := by
    rcases ptrR_inv hv with ⟨rfl, hd⟩ | ⟨g, rfl, hd⟩
    · have : fileOf D s = none := by unfold fileOf; rw [hd]
      rw [this]; rfl
    · rw [fileOf_lit D s g hd]; rfl
  rw [this] at hr
  exact hr

theorem t97_size : Try.t97.size = 3 := by kernel_rfl
theorem t97_bytes : Try.t97.bytes = 40 := by kernel_rfl
theorem t97_info : Try.prog.info? 97 = some Try.t97 := by kernel_rfl
theorem t97_zero : Try.t97.zero = some (.agg #[.string ⟨#[]⟩, .pointer none, .string ⟨#[]⟩]) := by kernel_rfl
/-- One of the document's changes that is appended. -/
theorem append_rchg (w : World) (v : Value) (l : List Chg) (h : RChs w v l) (hlen : l.length ≤ 1000000000) (x : Chg) (a : Addr) (c : Nat) (ha : ∀ j u, [Value.string x.became, ptrOf x.file, .string x.went][j]? = some u → w.cell? (a.add j) = some u) :
    ∃ (g' n' c' : Nat) (w' : World), (∀ ty, (Builtin.append_ #[82, 82] ty #[v, .slice (some a) 1 c]).run Try.prog w = .ok (.slice (some ⟨g', 0, none⟩) n' c') w') ∧ RChs w' (.slice (some ⟨g', 0, none⟩) n' c') (l ++ [x]) ∧ Turns (inRow v) w w' ∧ ∀ k, inRow (.slice (some ⟨g', 0, none⟩) n' c') k → inRow v k ∨ w.heap.size ≤ k := by
  have hsrc : Src Try.prog Try.t97.size 82 (.slice (some a) 1 c) 1 [.string x.became, ptrOf x.file, .string x.went] w := Src.ofSlice w Try.underlying82 a 1 c _ (by rw [t97_size]; rfl) ha (fun u hu => by
    simp only [List.mem_cons, List.not_mem_nil, or_false] at hu
    rcases hu with rfl | rfl | rfl
    · rfl
    · cases x.file <;> rfl
    · rfl)
  obtain ⟨base, sLen, sCap, rfl, hsl, hbase⟩ : ∃ (base : Option Addr) (sLen sCap : Nat), v = .slice base sLen sCap ∧ sLen = l.length ∧ ((base = none ∧ sLen = 0 ∧ sCap = 0 ∧ 0 < 1) ∨ ∃ g, base = some ⟨g, 0, none⟩ ∧ 0 ≤ g ∧ sLen ≤ sCap ∧ RowC w g 97 (sCap * Try.t97.size) (rcCells l)) := by
    rcases h with ⟨rfl, rfl⟩ | ⟨g, c, n, rfl, rfl, _, h4, h5⟩
    · exact ⟨none, 0, 0, rfl, rfl, .inl ⟨rfl, rfl, rfl, by omega⟩⟩
    · exact ⟨_, _, _, rfl, rfl, .inr ⟨g, rfl, Nat.zero_le _, h4, by rw [t97_size]; exact h5⟩⟩
  obtain ⟨g, cp, w', hr, hg, hrow, hb, hcp, hin, hout, hkeep⟩ := append_gen2 (P := Try.prog) w 0 82 97 Try.t97 _ Try.underlying82 t97_info t97_zero rfl base sLen sCap (rcCells l) (by rw [rcCells_length, t97_size, hsl]) _ 1 _ hsrc (Nat.zero_le _) hbase (by rw [t97_bytes]; omega) (by omega)
  refine ⟨g, _, cp, w', hr, .inr ⟨g, cp, _, rfl, by simp [hsl], by omega, hcp, ?_⟩, ⟨hb.os, hb.tape, hb.output, hb.size, fun k hk hn => hkeep k hk fun e => hn ⟨sLen, sCap, by rw [e]⟩⟩, fun k hk => ?_⟩
  · rw [t97_size] at hrow
    rw [rcCells_snoc]
    exact hrow
  · obtain ⟨n', c', e⟩ := hk
    cases e
    rcases Nat.lt_or_ge sCap (sLen + 1) with hc | hc
    · exact .inr (by rw [hout hc]; exact Nat.le_refl _)
    · exact .inl ⟨sLen, sCap, by rw [(hin hc).1]⟩

def RDisk.setF (r : RDisk) (g : Nat) (x : Fil) : RDisk := { r with files := fun k => if k = g then some x else r.files k }
def RDisk.change (r : RDisk) (c : Chg) : RDisk := { r with changes := r.changes ++ [c] }

section
variable {A : Nat → Prop} {w w' : World} {q : Nat} {r : RDisk} {bs : Nat} {ch ch' : Value} {fv : Nat → Value}
/-- A change was kept, with a file that may be new. -/
theorem RRepAt.changed (h : RRepAt A w q r bs ch fv) (c : Chg) (hf : w'.heap[q]? = some (.cells ((r.change c).cells bs ch') 84 (0, 0))) (hc : RChs w' ch' (r.changes ++ [c])) (t : Turns (fun k => k = q ∨ inRow ch k) w w') (hr : ∀ k, inRow ch' k → inRow ch k ∨ w.heap.size ≤ k)
    (hx : ∀ g, c.file = some g → ∃ x, r.files g = some x) : RRepAt (Grow A w) w' q (r.change c) bs ch' fv where
  cells := hf
  synced := h.synced.keep t fun e => by
    rcases e with e | e
    · exact h.fs e.symm
    · exact (h.chrow e).2.1 rfl
  chs := hc
  af := .inl h.af
  ay := .inl h.ay
  ac := fun k hk => (hr k hk).imp (h.ac k) id
  files := by
    refine ⟨fun g x hg => ?_, h.files.apart⟩
    have hg' : r.files g = some x := hg
    refine ((h.files.each g x hg').mono (A' := Grow A w) fun k _ hk => .inl hk).keep t (fun e => ?_) (fun k hk e => ?_)
    · rcases e with e | e
      · exact (h.file hg').1 e
      · exact (h.file hg').2.2.1 e
    · rcases e with e | e
      · exact (h.row hg' hk).1 e
      · exact (h.row hg' hk).2.2.1 e
  refs := by
    refine ⟨h.refs.fs, h.refs.synced, fun x hxm g hg => ?_⟩
    have hxm' : x ∈ r.changes ++ [c] := hxm
    rcases List.mem_append.1 hxm' with hxm | hxm
    · exact h.refs.changes x hxm g hg
    · obtain rfl : x = c := by simpa using hxm
      exact hx g hg
/-- A file without bytes is new. -/
theorem RRepAt.fresh (h : RRepAt A w q r bs ch fv) {g : Nat} (hg : w.heap.size ≤ g) (t : Turns (fun _ => False) w w') (hc : w'.heap[g]? = some (.cells #[.slice none 0 0, .int .i64 0] 95 (0, 0))) : RRepAt (Grow A w) w' q (r.setF g ⟨[], 0⟩) bs ch (fun k => if k = g then .slice none 0 0 else fv k) := by
  have h' := h.quiet t
  have hnil : ∀ k, ¬ inRow (.slice none 0 0) k := fun k hk => by obtain ⟨_, _, e⟩ := hk; cases e
  refine ⟨h'.cells, h'.synced, h'.chs, .inl h.af, .inl h.ay, fun k hk => .inl (h.ac k hk), ⟨fun p x hp => ?_, fun p p' x x' k hp hp' hne hk => ?_⟩, ?_⟩
  · by_cases e : p = g
    · subst e
      have hx : (⟨[], 0⟩ : Fil) = x := by simpa [RDisk.setF] using hp
      subst hx
      rw [if_pos rfl]
      exact ⟨hc, .inl ⟨rfl, rfl⟩, .inr hg, fun k hk => (hnil k hk).elim⟩
    · rw [if_neg e]
      have hp' : r.files p = some x := by simpa [RDisk.setF, e] using hp
      exact (h'.files.each p x hp').mono fun k _ hk => .inl hk
  · by_cases e : p = g
    · rw [if_pos e] at hk
      exact (hnil k hk).elim
    · rw [if_neg e] at hk
      by_cases e' : p' = g
      · rw [if_pos e']
        exact hnil k
      · rw [if_neg e']
        exact h.files.apart p p' x x' k (by simpa [RDisk.setF, e] using hp) (by simpa [RDisk.setF, e'] using hp') hne hk
  · have hup : ∀ p, (∃ x, r.files p = some x) → ∃ x, (r.setF g ⟨[], 0⟩).files p = some x := fun p ⟨x, hx⟩ => by
      by_cases e : p = g
      · exact ⟨⟨[], 0⟩, by simp [RDisk.setF, e]⟩
      · exact ⟨x, by simp [RDisk.setF, e, hx]⟩
    exact ⟨h.refs.fs, fun s p hs => hup p (h.refs.synced s p hs), fun c hc p hp => hup p (h.refs.changes c hc p hp)⟩
end
end Go.Proofs.Ytefjljdgdoklmaa
