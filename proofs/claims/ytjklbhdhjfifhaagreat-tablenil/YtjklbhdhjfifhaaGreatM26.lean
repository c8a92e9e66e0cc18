import Derived.Test.YtjklbhdhjfifhaaGreatM25
import Derived.Deep.Upon
/-
  Are rows of numbers the same? Keys that are built up. The block's reader.
-/
namespace Go.Proofs.YtjklbhdhjfifhaaGreat
open Go.RowKit
set_option maxRecDepth 100000
set_option maxHeartbeats 4000000
theorem IntsAt.len {w : World} {a : Option Addr} {n c : Nat} {l : List Nat} (h : IntsAt w (.slice a n c) l) : n = l.length := by
  obtain ⟨_, _, e, _⟩ := h
  cases e
  rfl
theorem IntsAt.at' {w : World} {a : Option Addr} {n c : Nat} {l : List Nat} (h : IntsAt w (.slice a n c) l) {k : Nat} (hk : k < l.length) : ∃ b off, a = some ⟨b, off, none⟩ ∧ w.cell? ⟨b, off + k, none⟩ = some (.int .i64 (l[k] : Nat)) := by
  obtain ⟨_, _, e, hx⟩ := h
  cases e
  exact hx k l[k] (List.getElem?_eq_getElem hk)
theorem equalInts_any (a a' : Option Addr) (n n' c c' : Nat) (x y : List Nat) (w : World) (h : IntsAt w (.slice a n c) x) (h' : IntsAt w (.slice a' n' c') y) (hn : n ≤ 1000000) :
    Calls Tryz.prog 173 #[.slice a n c, .slice a' n' c'] w fun e w' => e = .returned (.bool (decide (x = y))) ∧ ∃ m, w' = w.drewN m := by
  have hl := h.len
  have hl' := h'.len
  have H := hide h
  have H' := hide h'
  have HL := hide hl
  have HL' := hide hl'
  clear h h' hl hl'
  by_cases hnn : n = n'
  · subst hnn
    go_enter Tryz.func173, Tryz.ntmps173
    go_wp2_with fail
    go_loopw [13] (fun i wr => ∃ k : Nat, i = .int .i64 (k : Nat) ∧ k ≤ n ∧ x.take k = y.take k ∧ ∃ m, wr = w.drewN m) (fun i _ => n - (intOf i).toNat)
    case atStart => exact ⟨0, rfl, Nat.zero_le _, rfl, 0, rfl⟩
    case round =>
      obtain ⟨k, rfl, hk, htk, m, rfl⟩ := hrel
      have HTK := hide htk
      clear htk
      by_cases hkn : k < n
      · have hkx : k < x.length := by have := HL.out; omega
        have hky : k < y.length := by have := HL'.out; omega
        obtain ⟨b, off, rfl, h1⟩ := H.out.at' hkx
        obtain ⟨b', off', rfl, h2⟩ := H'.out.at' hky
        have i1 : (k : Int) < (n : Int) := by omega
        have i0 : (0 : Int) ≤ (k : Int) := by omega
        by_cases hxy : x[k] = y[k]
        · have HT2 := hide (show x.take (k + 1) = y.take (k + 1) by rw [List.take_succ_eq_append_getElem hkx, List.take_succ_eq_append_getElem hky, HTK.out, hxy])
          rw [← hxy] at h2
          generalize x[k] = q at *
          clear hxy
          go_wp2_with fail
          go_quiet (fail)
          go_wp2
          go_roundw
          case rel => exact ⟨k + 1, by go_num, by omega, HT2.out, _, rfl⟩
          case measure => simp [intOf]; omega
        · have hxn : ¬ x = y := fun e => hxy (by subst e; rfl)
          have HXN := hide hxn
          generalize x[k] = q at *
          generalize y[k] = q' at *
          have hne' : ¬ (q : Int) = (q' : Int) := by omega
          clear hxy hxn
          go_wp2_with fail
          go_quiet (fail)
          go_wp2
          go_ret
          exact ⟨congrArg Ending.returned (congrArg Value.bool (decide_eq_false HXN.out).symm), _, World.drewN_drewN _ _ _⟩
      · obtain rfl : k = n := by omega
        have hxy : x = y := by
          have := HTK.out
          rwa [List.take_of_length_le (by have := HL.out; omega), List.take_of_length_le (by have := HL'.out; omega)] at this
        have HXY := hide hxy
        clear hxy
        go_wp2
        go_ret
        exact ⟨congrArg Ending.returned (congrArg Value.bool (decide_eq_true HXY.out).symm), m, rfl⟩
  · have hnn' : ¬ (n : Int) = (n' : Int) := by omega
    have hxn : ¬ x = y := fun e => hnn (by rw [HL.out, HL'.out, e])
    have HXN := hide hxn
    clear hxn
    go_enter Tryz.func173, Tryz.ntmps173
    go_wp2_with fail
    go_ret
    exact ⟨congrArg Ending.returned (congrArg Value.bool (decide_eq_false HXN.out).symm), 0, rfl⟩
/-- A key in a row of one's own, or none yet. -/
def KRow (w : World) (B : Nat) (v : Value) (key : List (BitVec 8)) : Prop :=
  (key = [] ∧ v = .slice none 0 0) ∨ ∃ g c n : Nat, v = .slice (some ⟨g, 0, none⟩) n c ∧ n = key.length ∧ n ≤ c ∧ B ≤ g ∧ RowB w g c key
theorem KRow.row {w : World} {B : Nat} {v : Value} {R : List (BitVec 8)} (h : KRow w B v R) {k : Nat} (hk : inRow v k) : B ≤ k ∧ k < w.heap.size := by
  obtain ⟨n', c', e⟩ := hk
  rcases h with ⟨_, rfl⟩ | ⟨g, c, n, rfl, _, _, hB, cs, h1, _⟩
  · cases e
  · cases e; exact ⟨hB, lt_of_heap h1⟩
theorem KRow.keep {S : Nat → Prop} {w w' : World} {B : Nat} {v : Value} {R : List (BitVec 8)} (h : KRow w B v R) (t : Turns S w w') (hn : ∀ k, inRow v k → ¬ S k) : KRow w' B v R := by
  rcases h with h | ⟨g, c, n, h1, h2, h3, h4, h5⟩
  · exact .inl h
  · exact .inr ⟨g, c, n, h1, h2, h3, h4, RowC.turns h5 t (hn g ⟨n, c, h1⟩)⟩
theorem KRow.len {w : World} {B : Nat} {v : Value} {R : List (BitVec 8)} (h : KRow w B v R) : ∃ a c, v = .slice a R.length c ∧ R.length ≤ c := by
  rcases h with ⟨rfl, rfl⟩ | ⟨g, c, n, rfl, rfl, h, _⟩
  · exact ⟨none, 0, rfl, Nat.le_refl _⟩
  · exact ⟨_, _, rfl, h⟩
theorem KRow.bytes {w : World} {B : Nat} {v : Value} {R : List (BitVec 8)} (h : KRow w B v R) : Bytes w v R := by
  rcases h with ⟨rfl, rfl⟩ | ⟨g, c, n, rfl, rfl, _, _, h5⟩
  · exact Bytes.empty _
  · exact RowB.bytes h5 rfl
/-- A key cut back, with bytes behind. -/
theorem append_key (w : World) (B : Nat) (a : Option Addr) (c : Nat) (key : List (BitVec 8)) (h : KRow w B (.slice a key.length c) key) (hB : B ≤ w.heap.size) (s : Nat) (hs : s ≤ key.length) (x : Value) (news : List (BitVec 8)) (hx : Bytes w x news) (hsm : key.length + news.length ≤ 100000000) :
    ∃ (a' : Option Addr) (c' : Nat) (w' : World), (∀ ty, (Builtin.append_ #[28, 28] ty #[.slice a s c, x]).run Tryz.prog w = .ok (.slice a' (s + news.length) c') w') ∧ KRow w' B (.slice a' (s + news.length) c') (key.take s ++ news) ∧ Turns (inRow (.slice a key.length c)) w w' ∧ (∀ k, inRow (.slice a' (s + news.length) c') k → inRow (.slice a key.length c) k ∨ w.heap.size ≤ k) := by
  have hlen : s + news.length = (key.take s ++ news).length := by rw [List.length_append, List.length_take, Nat.min_eq_left hs]
  rcases h with ⟨h0, e⟩ | ⟨g, c', n, e, h2, h3, h4, h5⟩
  · subst h0
    cases e
    obtain rfl : s = 0 := by simpa using hs
    rcases Nat.eq_zero_or_pos news.length with q | q
    · obtain rfl : news = [] := List.eq_nil_of_length_eq_zero q
      refine ⟨none, 0, w, fun ty => run_append_nothing w 28 28 ty 5 Tryz.t5 Tryz.underlying28 info5 none 0 0 (Nat.le_refl _) x (src_of_bytes hx), .inl ⟨rfl, rfl⟩, Turns.refl _ _, fun k hk => by obtain ⟨_, _, e⟩ := hk; cases e⟩
    · obtain ⟨g, c', w', hr, hg, hrow, hb, hc', _, hnew, hkeep⟩ := append_bytes2 w B none 0 0 [] rfl x news news.length rfl hx hB (.inl ⟨rfl, rfl, rfl, q⟩) (by omega)
      refine ⟨some ⟨g, 0, none⟩, c', w', hr, .inr ⟨g, c', _, rfl, hlen, hc', hg, by simpa using hrow⟩, ⟨hb.os, hb.tape, hb.output, hb.size, fun k hk _ => hkeep k hk (by simp)⟩, fun k hk => .inr ?_⟩
      obtain ⟨_, _, e⟩ := hk
      cases e
      exact Nat.le_of_eq (hnew (by omega)).symm
  · injection e with e1 e2 e3
    subst e1 e3
    have hrow0 : RowB w g c (key.take s) := by
      obtain ⟨cs, k1, k2, k3⟩ := h5
      refine ⟨cs, k1, k2, fun k hk => ?_⟩
      rw [cellsOf_length, List.length_take] at hk
      rw [k3 k (by rw [cellsOf_length]; omega)]
      simp [cellsOf, show k < s by omega]
    obtain ⟨g', c', w', hr, hg, hrow, hb, hc', hin, hnew, hkeep⟩ := append_bytes2 w B (some ⟨g, 0, none⟩) s c (key.take s) (by rw [List.length_take, Nat.min_eq_left hs]) x news news.length rfl hx hB (.inr ⟨g, rfl, h4, by omega, hrow0⟩) (by omega)
    refine ⟨some ⟨g', 0, none⟩, c', w', hr, .inr ⟨g', c', _, rfl, hlen, hc', hg, hrow⟩, ⟨hb.os, hb.tape, hb.output, hb.size, fun k hk hn => hkeep k hk fun e => hn ⟨_, _, by rw [e]⟩⟩, fun k hk => ?_⟩
    obtain ⟨_, _, e⟩ := hk
    cases e
    rcases Nat.lt_or_ge c (s + news.length) with q | q
    · exact .inr (Nat.le_of_eq (hnew q).symm)
    · exact .inl ⟨_, _, by rw [(hin q).1]⟩
/-- The block's reader in memory. -/
structure RS (w : World) (q r : Nat) (p : List (BitVec 8)) (i : Nat) (e : Int) (kv ev rv : Value) (key : List (BitVec 8)) (R : List Tow) (ms : List Nat) : Prop where
  box : w.heap[q]? = some (.cells #[.pointer (some ⟨r, 0, none⟩), kv, ev, rv] 221 (0, 0))
  rd : Rdr w r p i e
  rq : r < q
  kr : KRow w (q + 1) kv key
  er : ERow w (q + 1) ev R
  ir : IRow w (q + 1) rv ms
  sh : Shown w (q + 1) R
  ke : ∀ k, inRow kv k → ¬ inRow ev k
  kI : ∀ k, inRow kv k → ¬ inRow rv k
  eI : ∀ k, inRow ev k → ¬ inRow rv k
  ap : ∀ x, x ∈ R → ∀ b, x.bytesIn b → ¬ inRow kv b ∧ ¬ inRow ev b ∧ ¬ inRow rv b
theorem Rdr.lt {w : World} {r : Nat} {p : List (BitVec 8)} {i : Nat} {e : Int} (h : Rdr w r p i e) : r < w.heap.size := by
  obtain ⟨_, _, hr, _⟩ := h
  exact lt_of_heap hr
/-- Only the bytes' reader has turned. -/
theorem RS.read {w w' : World} {q r : Nat} {p : List (BitVec 8)} {i i' : Nat} {e e' : Int} {kv ev rv : Value} {key : List (BitVec 8)} {R : List Tow} {ms : List Nat} (h : RS w q r p i e kv ev rv key R ms) (hr : Rdr w' r p i' e') (t : Turns (fun j => j = r) w w') : RS w' q r p i' e' kv ev rv key R ms where
  box := t.heap h.box (by have := h.rq; omega)
  rd := hr
  rq := h.rq
  kr := h.kr.keep t fun k hk e => by have := (h.kr.row hk).1; have := h.rq; omega
  er := h.er.keep t fun k hk e => by have := (h.er.row hk).1; have := h.rq; omega
  ir := h.ir.keep t fun k hk e => by have := (h.ir.row hk).1; have := h.rq; omega
  sh := h.sh.keep t fun x hx q' hq e => by have := ((h.sh x hx).2.2 q' hq).1; have := h.rq; omega
  ke := h.ke
  kI := h.kI
  eI := h.eI
  ap := h.ap
theorem RS.drewN {w : World} {q r : Nat} {p : List (BitVec 8)} {i : Nat} {e : Int} {kv ev rv : Value} {key : List (BitVec 8)} {R : List Tow} {ms : List Nat} (h : RS w q r p i e kv ev rv key R ms) (m : Nat) : RS (w.drewN m) q r p i e kv ev rv key R ms := h.read (h.rd.drewN m) (turnsN _ _)
theorem RS.quiet {w w' : World} {q r : Nat} {p : List (BitVec 8)} {i : Nat} {e : Int} {kv ev rv : Value} {key : List (BitVec 8)} {R : List Tow} {ms : List Nat} (h : RS w q r p i e kv ev rv key R ms) (t : Turns (fun _ => False) w w') : RS w' q r p i e kv ev rv key R ms := h.read (h.rd.turns t (fun x => x)) (t.mono fun _ _ x => x.elim)
theorem RS.lt {w : World} {q r : Nat} {p : List (BitVec 8)} {i : Nat} {e : Int} {kv ev rv : Value} {key : List (BitVec 8)} {R : List Tow} {ms : List Nat} (h : RS w q r p i e kv ev rv key R ms) : q < w.heap.size := lt_of_heap h.box
end Go.Proofs.YtjklbhdhjfifhaaGreat

/-
  The next entry of a block's reader.
-/
namespace Go.Proofs.YtjklbhdhjfifhaaGreat
open Go.RowKit
set_option maxRecDepth 100000
set_option maxHeartbeats 8000000
theorem takeR_any (q r : Nat) (p : List (BitVec 8)) (i n : Nat) (z : Int) (w : World) (hq : w.cell? ⟨q, 0, none⟩ = some (.pointer (some ⟨r, 0, none⟩))) (h : Rdr w r p i z) (hp : p.length ≤ 100000) (hi : i ≤ p.length) (hn : n < 18446744073709551616) :
    Calls Tryz.prog 193 #[.pointer (some ⟨q, 0, none⟩), .int .u64 (n : Nat)] w fun e w' => FixOk r p i n z w e w' ∧ Turns (fun j => j = r) w w' := by
  have hfin : ∀ e w', FixOk r p i (min n 262145) z w e w' → FixOk r p i n z w e w' := fun e w' hx => by
    rcases hx with ⟨h1, h2, h3⟩ | ⟨h1, h2⟩
    · rw [show min n 262145 = n by omega] at h3
      exact .inl ⟨h1, by omega, h3⟩
    · exact .inr ⟨fun k => h1 ⟨k.1, by omega⟩, h2⟩
  have HFIN := hide hfin
  have HQ := hide (fixed_all r p i (min n 262145) z w h (by omega) hi)
  have hm : ((min n 262145 : Nat) : Int) = min (n : Int) 262145 := by omega
  rw [hm] at HQ
  have hmr : min (n : Int) 262145 ≤ 262145 := by omega
  have hmr0 : 0 ≤ min (n : Int) 262145 := by omega
  clear h hfin hm
  go_enter Tryz.func193, Tryz.ntmps193
  go_wp2_with fail
  refine HQ.out.mono ?_
  rintro e w1 ⟨h1, t1⟩
  have H1 := hide h1
  have T1 := hide t1
  clear h1 t1
  have hv : ∃ v, e = .returned v := by
    rcases H1.out with ⟨_, _, a', c', e1, _⟩ | ⟨_, e1, _⟩ <;> exact ⟨_, e1⟩
  obtain ⟨v, rfl⟩ := hv
  go_wp2_with fail
  go_ret
  exact ⟨HFIN.out _ _ H1.out, T1.out⟩
/-- Four numbers, read by a reader. -/
theorem num4 {p : List (BitVec 8)} {i s m x v i1 i2 i3 i4 : Nat} {z1 z2 z3 z4 : Int} (h1 : numR p i 0 = (s, i1, z1)) (h2 : numR p i1 z1 = (m, i2, z2)) (h3 : numR p i2 z2 = (x, i3, z3)) (h4 : numR p i3 z3 = (v, i4, z4)) :
    (z4 = 0 → rd4 (p.drop i) = some (s, m, x, v, p.drop i4)) ∧ (z4 ≠ 0 → rd4 (p.drop i) = none) := by
  have err : ∀ {j : Nat} {l : Nat × Nat × Int} {z : Int}, z ≠ 0 → numR p j z = l → l = (0, j, z) := fun hz e => by rw [← e, numR, if_neg hz]
  have eOk : ∀ {j : Nat} {a b : Nat} {z : Int}, numR p j 0 = (a, b, z) → (z = 0 ∧ ∃ k, rdShort (p.drop j) = .ok (a, k) ∧ b = j + k) ∨ (z ≠ 0 ∧ ∃ y, rdShort (p.drop j) = .error y) := fun {j a b z} e => by
    rw [numR, if_pos rfl] at e
    split at e
    · rename_i y hq
      simp only [Prod.mk.injEq] at e
      have := rdShort_err hq
      exact .inr ⟨by omega, _, hq⟩
    · rename_i a' k hq
      simp only [Prod.mk.injEq] at e
      obtain ⟨rfl, rfl, rfl⟩ := e
      exact .inl ⟨rfl, k, hq, rfl⟩
  have fin : ∀ {j : Nat} {a b : Nat} {y z : Int}, y ≠ 0 → numR p j y = (a, b, z) → z = y := fun hy e => by
    have := err hy e
    simp only [Prod.mk.injEq] at this
    exact this.2.2
  unfold rd4
  rcases eOk h1 with ⟨rfl, k1, e1, rfl⟩ | ⟨q1, y, e1⟩
  · rw [e1]
    simp only [List.drop_drop]
    rcases eOk h2 with ⟨rfl, k2, e2, rfl⟩ | ⟨q2, y, e2⟩
    · rw [e2]
      simp only
      rcases eOk h3 with ⟨rfl, k3, e3, rfl⟩ | ⟨q3, y, e3⟩
      · rw [e3]
        simp only
        rcases eOk h4 with ⟨rfl, k4, e4, rfl⟩ | ⟨q4, y, e4⟩
        · rw [e4]
          exact ⟨fun _ => rfl, fun q => absurd rfl q⟩
        · rw [e4]
          exact ⟨fun q => absurd q q4, fun _ => rfl⟩
      · rw [e3]
        have := fin q3 h4
        exact ⟨fun q => absurd (this ▸ q) q3, fun _ => rfl⟩
    · rw [e2]
      have a1 := fin q2 h3
      subst a1
      have a2 := fin q2 h4
      exact ⟨fun q => absurd (a2 ▸ q) q2, fun _ => rfl⟩
  · rw [e1]
    have a1 := fin q1 h2
    subst a1
    have a2 := fin q1 h3
    subst a2
    have a3 := fin q1 h4
    exact ⟨fun q => absurd (a3 ▸ q) q1, fun _ => rfl⟩
end Go.Proofs.YtjklbhdhjfifhaaGreat

/-
  What becomes of a block's reader when one of its rows grows.
-/
namespace Go.Proofs.YtjklbhdhjfifhaaGreat
open Go.RowKit
set_option maxRecDepth 100000
section
variable {w w6 : World} {q r : Nat} {p : List (BitVec 8)} {i : Nat} {e : Int} {kv ev rv : Value} {key : List (BitVec 8)} {R : List Tow} {ms : List Nat}
theorem setBox (h : w6.heap[q]? = some (.cells #[.pointer (some ⟨r, 0, none⟩), kv, ev, rv] 221 (0, 0))) (v : Value) :
    (w6.setCell ⟨q, 1, none⟩ v).heap[q]? = some (.cells #[.pointer (some ⟨r, 0, none⟩), v, ev, rv] 221 (0, 0)) ∧ (w6.setCell ⟨q, 2, none⟩ v).heap[q]? = some (.cells #[.pointer (some ⟨r, 0, none⟩), kv, v, rv] 221 (0, 0)) ∧ (w6.setCell ⟨q, 3, none⟩ v).heap[q]? = some (.cells #[.pointer (some ⟨r, 0, none⟩), kv, ev, v] 221 (0, 0)) := by
  have s1 := heap_setCell_same _ q 1 _ 221 v h
  have s2 := heap_setCell_same _ q 2 _ 221 v h
  have s3 := heap_setCell_same _ q 3 _ 221 v h
  simp only [List.setIfInBounds_toArray, List.set_cons_succ, List.set_cons_zero] at s1 s2 s3
  exact ⟨s1, s2, s3⟩
theorem tq (w6 : World) (q o : Nat) (v : Value) : Turns (fun j => j = q) w6 (w6.setCell ⟨q, o, none⟩ v) := turns_cell (Turns.refl _ _) o v
theorem RS.keep {S : Nat → Prop} {w' : World} (h : RS w q r p i e kv ev rv key R ms) (t : Turns S w w') (hq : ¬ S q) (hr : ∀ k, S k → r < k) (hk : ∀ k, inRow kv k ∨ inRow ev k ∨ inRow rv k → ¬ S k) (hb : ∀ x, x ∈ R → ∀ b, x.bytesIn b → ¬ S b) : RS w' q r p i e kv ev rv key R ms where
  box := t.heap h.box hq
  rd := h.rd.keep t hr
  rq := h.rq
  kr := h.kr.keep t fun k x => hk k (.inl x)
  er := h.er.keep t fun k x => hk k (.inr (.inl x))
  ir := h.ir.keep t fun k x => hk k (.inr (.inr x))
  sh := h.sh.keep t hb
  ke := h.ke
  kI := h.kI
  eI := h.eI
  ap := h.ap
/-- Nothing of it lies in new memory. -/
theorem RS.rows (h : RS w q r p i e kv ev rv key R ms) : (∀ k, inRow kv k ∨ inRow ev k ∨ inRow rv k → k < w.heap.size) ∧ ∀ x, x ∈ R → ∀ b, x.bytesIn b → b < w.heap.size :=
  ⟨fun k hk => by
    rcases hk with x | x | x
    · exact (h.kr.row x).2
    · exact (h.er.row x).2
    · exact (h.ir.row x).2, fun x hx b hb => ((h.sh x hx).2.2 b hb).2⟩
/-- The key's row has grown. -/
theorem RS.setKey (h : RS w q r p i e kv ev rv key R ms) {kv' : Value} {key' : List (BitVec 8)} (hk : KRow w6 (q + 1) kv' key') (t : Turns (inRow kv) w w6) (hin : ∀ k, inRow kv' k → inRow kv k ∨ w.heap.size ≤ k) :
    RS (w6.setCell ⟨q, 1, none⟩ kv') q r p i e kv' ev rv key' R ms where
  box := (setBox (t.heap h.box fun x => by have := (h.kr.row x).1; omega) kv').1
  rd := (h.rd.keep t fun k hk => by have := (h.kr.row hk).1; have := h.rq; omega).keep (tq w6 q 1 kv') fun k hk => by have := h.rq; omega
  rq := h.rq
  kr := hk.keep (tq w6 q 1 kv') fun k hk' e => by have := (hk.row hk').1; omega
  er := (h.er.keep t fun k hk' x => h.ke k x hk').keep (tq w6 q 1 kv') fun k hk' e => by have := (h.er.row hk').1; omega
  ir := (h.ir.keep t fun k hk' x => h.kI k x hk').keep (tq w6 q 1 kv') fun k hk' e => by have := (h.ir.row hk').1; omega
  sh := (h.sh.keep t fun x hx b hb => (h.ap x hx b hb).1).keep (tq w6 q 1 kv') fun x hx b hb e => by have := ((h.sh x hx).2.2 b hb).1; omega
  ke := fun k hk' x => by
    rcases hin k hk' with y | y
    · exact h.ke k y x
    · have := (h.er.row x).2; omega
  kI := fun k hk' x => by
    rcases hin k hk' with y | y
    · exact h.kI k y x
    · have := (h.ir.row x).2; omega
  eI := h.eI
  ap := fun x hx b hb => ⟨fun y => by
    rcases hin b y with y | y
    · exact (h.ap x hx b hb).1 y
    · have := ((h.sh x hx).2.2 b hb).2; omega, (h.ap x hx b hb).2⟩
/-- An entry more. -/
theorem RS.setEnts (h : RS w q r p i e kv ev rv key R ms) {ev' : Value} {y : Tow} (hk : ERow w6 (q + 1) ev' (R ++ [y])) (t : Turns (inRow ev) w w6) (hin : ∀ k, inRow ev' k → inRow ev k ∨ w.heap.size ≤ k) (hy : Bytes w y.kv y.e.key ∧ Bytes w y.vv y.e.val ∧ ∀ b, y.bytesIn b → q + 1 ≤ b ∧ b < w.heap.size) (hya : ∀ b, y.bytesIn b → ¬ inRow kv b ∧ ¬ inRow ev b ∧ ¬ inRow rv b) :
    RS (w6.setCell ⟨q, 2, none⟩ ev') q r p i e kv ev' rv key (R ++ [y]) ms := by
  have hall : ∀ x, x ∈ R ++ [y] → (Bytes w x.kv x.e.key ∧ Bytes w x.vv x.e.val ∧ ∀ b, x.bytesIn b → q + 1 ≤ b ∧ b < w.heap.size) ∧ ∀ b, x.bytesIn b → ¬ inRow kv b ∧ ¬ inRow ev b ∧ ¬ inRow rv b := fun x hx => by
    rcases List.mem_append.1 hx with hx | hx
    · exact ⟨h.sh x hx, h.ap x hx⟩
    · obtain rfl : x = y := by simpa using hx
      exact ⟨hy, hya⟩
  exact {
    box := (setBox (t.heap h.box fun x => by have := (h.er.row x).1; omega) ev').2.1
    rd := (h.rd.keep t fun k hk => by have := (h.er.row hk).1; have := h.rq; omega).keep (tq w6 q 2 ev') fun k hk => by have := h.rq; omega
    rq := h.rq
    kr := (h.kr.keep t fun k hk' x => h.ke k hk' x).keep (tq w6 q 2 ev') fun k hk' e => by have := (h.kr.row hk').1; omega
    er := hk.keep (tq w6 q 2 ev') fun k hk' e => by have := (hk.row hk').1; omega
    ir := (h.ir.keep t fun k hk' x => h.eI k x hk').keep (tq w6 q 2 ev') fun k hk' e => by have := (h.ir.row hk').1; omega
    sh := (Shown.keep (w := w) (fun x hx => (hall x hx).1) t fun x hx b hb => ((hall x hx).2 b hb).2.1).keep (tq w6 q 2 ev') fun x hx b hb e => by have := ((hall x hx).1.2.2 b hb).1; omega
    ke := fun k hk' x => by
      rcases hin k x with y | y
      · exact h.ke k hk' y
      · have := (h.kr.row hk').2; omega
    kI := h.kI
    eI := fun k hk' x => by
      rcases hin k hk' with y | y
      · exact h.eI k y x
      · have := (h.ir.row x).2; omega
    ap := fun x hx b hb => ⟨((hall x hx).2 b hb).1, fun y => by
      rcases hin b y with y | y
      · exact ((hall x hx).2 b hb).2.1 y
      · have := ((hall x hx).1.2.2 b hb).2; omega, ((hall x hx).2 b hb).2.2⟩ }
/-- A place more. -/
theorem RS.setInts (h : RS w q r p i e kv ev rv key R ms) {rv' : Value} {ms' : List Nat} (hk : IRow w6 (q + 1) rv' ms') (t : Turns (inRow rv) w w6) (hin : ∀ k, inRow rv' k → inRow rv k ∨ w.heap.size ≤ k) :
    RS (w6.setCell ⟨q, 3, none⟩ rv') q r p i e kv ev rv' key R ms' where
  box := (setBox (t.heap h.box fun x => by have := (h.ir.row x).1; omega) rv').2.2
  rd := (h.rd.keep t fun k hk => by have := (h.ir.row hk).1; have := h.rq; omega).keep (tq w6 q 3 rv') fun k hk => by have := h.rq; omega
  rq := h.rq
  kr := (h.kr.keep t fun k hk' x => h.kI k hk' x).keep (tq w6 q 3 rv') fun k hk' e => by have := (h.kr.row hk').1; omega
  er := (h.er.keep t fun k hk' x => h.eI k hk' x).keep (tq w6 q 3 rv') fun k hk' e => by have := (h.er.row hk').1; omega
  ir := hk.keep (tq w6 q 3 rv') fun k hk' e => by have := (hk.row hk').1; omega
  sh := (h.sh.keep t fun x hx b hb => (h.ap x hx b hb).2.2).keep (tq w6 q 3 rv') fun x hx b hb e => by have := ((h.sh x hx).2.2 b hb).1; omega
  ke := h.ke
  kI := fun k hk' x => by
    rcases hin k x with y | y
    · exact h.kI k hk' y
    · have := (h.kr.row hk').2; omega
  eI := fun k hk' x => by
    rcases hin k x with y | y
    · exact h.eI k hk' y
    · have := (h.er.row hk').2; omega
  ap := fun x hx b hb => ⟨(h.ap x hx b hb).1, (h.ap x hx b hb).2.1, fun y => by
    rcases hin b y with y | y
    · exact (h.ap x hx b hb).2.2 y
    · have := ((h.sh x hx).2.2 b hb).2; omega⟩
/-- The entries that were gathered, as they lie. -/
theorem ents_of {B : Nat} {a : Option Addr} {n c : Nat} (h : ERow w B (.slice a n c) R) (hs : Shown w B R) : Ents w a R := by
  intro k x hx
  have hxm : x ∈ R := List.mem_iff_getElem?.2 ⟨k, hx⟩
  refine ⟨?_, (hs x hxm).1, (hs x hxm).2.1⟩
  rcases h with ⟨rfl, _⟩ | ⟨g, c', n', e, hn, _, _, cs, h1, _, h3⟩
  · simp at hx
  · cases e
    have hk := (List.getElem?_eq_some_iff.1 hx).1
    refine ⟨g, 0, rfl, fun j u hu => ?_⟩
    have hj : j < 4 := (List.getElem?_eq_some_iff.1 hu).1
    rw [cell_of_row w g _ cs 35 (0, 0) h1, h3 _ (by rw [entCells_length]; omega)]
    obtain ⟨e0, e1, e2, e3⟩ := entCells_at R k x hx
    have hc : j = 0 ∨ j = 1 ∨ j = 2 ∨ j = 3 := by omega
    rcases hc with rfl | rfl | rfl | rfl
    · rw [show 0 + k * 4 + 0 = k * 4 by omega, e0]; exact hu
    · rw [show 0 + k * 4 + 1 = k * 4 + 1 by omega, e1]; exact hu
    · rw [show 0 + k * 4 + 2 = k * 4 + 2 by omega, e2]; exact hu
    · rw [show 0 + k * 4 + 3 = k * 4 + 3 by omega, e3]; exact hu
end
end Go.Proofs.YtjklbhdhjfifhaaGreat
