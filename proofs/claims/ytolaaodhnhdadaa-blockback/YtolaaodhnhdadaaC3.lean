/-
  Are rows of numbers the same? Keys that are built up. The block's reader.
-/
import Derived.Test.YtolaaodhnhdadaaC1
import Derived.Deep.Upon
namespace Go.Proofs.Ytolaaodhnhdadaa
open Go.RowKit
set_option maxRecDepth 100000
set_option maxHeartbeats 4000000
theorem IntsAt.len {w : World} {a : Option Addr} {n c : Nat} {l : List Nat} (h : IntsAt w (.slice a n c) l) : n = l.length := by
  obtain ⟨_, _, e, _⟩ := h
  cases e
  rfl
theorem IntsAt.at' {w : World} {a : Option Addr} {n c : Nat} {l : List Nat} (h : IntsAt w (.slice a n c) l) {k : Nat} (hk : k < l.length) : ∃ b off, a = some ⟨b, off, none⟩ ∧ w.cell? ⟨b, off + k, none⟩ = some (.int .i64 (l[k] : Nat)) := by
  obtain ⟨_, _, e, hx⟩ := h
  cases e
  exact hx k l[k] (List.getElem?_eq_getElem hk)
theorem equalInts_any (a a' : Option Addr) (n n' c c' : Nat) (x y : List Nat) (w : World) (h : IntsAt w (.slice a n c) x) (h' : IntsAt w (.slice a' n' c') y) (hn : n ≤ 1000000) :
    Calls Try.prog 43 #[.slice a n c, .slice a' n' c'] w fun e w' => e = .returned (.bool (decide (x = y))) ∧ ∃ m, w' = w.drewN m := by
  have hl := h.len
  have hl' := h'.len
  have H := hide h
  have H' := hide h'
  have HL := hide hl
  have HL' := hide hl'
  clear h h' hl hl'
  by_cases hnn : n = n'
  · subst hnn
    go_enter Try.func43, Try.ntmps43
    go_wp2_with fail
    go_loopw [13] (fun i wr => ∃ k : Nat, i = .int .i64 (k : Nat) ∧ k ≤ n ∧ x.take k = y.take k ∧ ∃ m, wr = w.drewN m) (fun i _ => n - (intOf i).toNat)
    case atStart => exact ⟨0, rfl, Nat.zero_le _, rfl, 0, rfl⟩
    case round =>
      obtain ⟨k, rfl, hk, htk, m, rfl⟩ := hrel
      have HTK := hide htk
      clear htk
      by_cases hkn : k < n
      · have hkx : k < x.length := by have := HL.out; omega
        have hky : k < y.length := by have := HL'.out; omega
        obtain ⟨b, off, rfl, h1⟩ := H.out.at' hkx
        obtain ⟨b', off', rfl, h2⟩ := H'.out.at' hky
        have i1 : (k : Int) < (n : Int) := by omega
        have i0 : (0 : Int) ≤ (k : Int) := by omega
        by_cases hxy : x[k] = y[k]
        · have HT2 := hide (show x.take (k + 1) = y.take (k + 1) by rw [List.take_succ_eq_append_getElem hkx, List.take_succ_eq_append_getElem hky, HTK.out, hxy])
          rw [← hxy] at h2
          generalize x[k] = q at *
          clear hxy
          go_wp2_with fail
          go_quiet (fail)
          go_wp2
          go_roundw
          case rel => exact ⟨k + 1, by go_num, by omega, HT2.out, _, rfl⟩
          case measure => simp [intOf]; omega
        · have hxn : ¬ x = y := fun e => hxy (by subst e; rfl)
          have HXN := hide hxn
          generalize x[k] = q at *
          generalize y[k] = q' at *
          have hne' : ¬ (q : Int) = (q' : Int) := by omega
          clear hxy hxn
          go_wp2_with fail
          go_quiet (fail)
          go_wp2
          go_ret
          exact ⟨congrArg Ending.returned (congrArg Value.bool (decide_eq_false HXN.out).symm), _, World.drewN_drewN _ _ _⟩
      · obtain rfl : k = n := by omega
        have hxy : x = y := by
          have := HTK.out
          rwa [List.take_of_length_le (by have := HL.out; omega), List.take_of_length_le (by have := HL'.out; omega)] at this
        have HXY := hide hxy
        clear hxy
        go_wp2
        go_ret
        exact ⟨congrArg Ending.returned (congrArg Value.bool (decide_eq_true HXY.out).symm), m, rfl⟩
  · have hnn' : ¬ (n : Int) = (n' : Int) := by omega
    have hxn : ¬ x = y := fun e => hnn (by rw [HL.out, HL'.out, e])
    have HXN := hide hxn
    clear hxn
    go_enter Try.func43, Try.ntmps43
    go_wp2_with fail
    go_ret
    exact ⟨congrArg Ending.returned (congrArg Value.bool (decide_eq_false HXN.out).symm), 0, rfl⟩
/-- A key in a row of one's own, or none yet. -/
def KRow (w : World) (B : Nat) (v : Value) (key : List (BitVec 8)) : Prop :=
  (key = [] ∧ v = .slice none 0 0) ∨ ∃ g c n : Nat, v = .slice (some ⟨g, 0, none⟩) n c ∧ n = key.length ∧ n ≤ c ∧ B ≤ g ∧ RowB w g c key
theorem KRow.row {w : World} {B : Nat} {v : Value} {R : List (BitVec 8)} (h : KRow w B v R) {k : Nat} (hk : inRow v k) : B ≤ k ∧ k < w.heap.size := by
  obtain ⟨n', c', e⟩ := hk
  rcases h with ⟨_, rfl⟩ | ⟨g, c, n, rfl, _, _, hB, cs, h1, _⟩
  · cases e
  · cases e; exact ⟨hB, lt_of_heap h1⟩
theorem KRow.keep {S : Nat → Prop} {w w' : World} {B : Nat} {v : Value} {R : List (BitVec 8)} (h : KRow w B v R) (t : Turns S w w') (hn : ∀ k, inRow v k → ¬ S k) : KRow w' B v R := by
  rcases h with h | ⟨g, c, n, h1, h2, h3, h4, h5⟩
  · exact .inl h
  · exact .inr ⟨g, c, n, h1, h2, h3, h4, RowC.turns h5 t (hn g ⟨n, c, h1⟩)⟩
theorem KRow.len {w : World} {B : Nat} {v : Value} {R : List (BitVec 8)} (h : KRow w B v R) : ∃ a c, v = .slice a R.length c ∧ R.length ≤ c := by
  rcases h with ⟨rfl, rfl⟩ | ⟨g, c, n, rfl, rfl, h, _⟩
  · exact ⟨none, 0, rfl, Nat.le_refl _⟩
  · exact ⟨_, _, rfl, h⟩
theorem KRow.bytes {w : World} {B : Nat} {v : Value} {R : List (BitVec 8)} (h : KRow w B v R) : Bytes w v R := by
  rcases h with ⟨rfl, rfl⟩ | ⟨g, c, n, rfl, rfl, _, _, h5⟩
  · exact Bytes.empty _
  · exact RowB.bytes h5 rfl
/-- A key cut back, with bytes behind. -/
theorem append_key (w : World) (B : Nat) (a : Option Addr) (c : Nat) (key : List (BitVec 8)) (h : KRow w B (.slice a key.length c) key) (hB : B ≤ w.heap.size) (s : Nat) (hs : s ≤ key.length) (x : Value) (news : List (BitVec 8)) (hx : Bytes w x news) (hsm : key.length + news.length ≤ 100000000) :
    ∃ (a' : Option Addr) (c' : Nat) (w' : World), (∀ ty, (Builtin.append_ #[22, 22] ty #[.slice a s c, x]).run Try.prog w = .ok (.slice a' (s + news.length) c') w') ∧ KRow w' B (.slice a' (s + news.length) c') (key.take s ++ news) ∧ Turns (inRow (.slice a key.length c)) w w' ∧ (∀ k, inRow (.slice a' (s + news.length) c') k → inRow (.slice a key.length c) k ∨ w.heap.size ≤ k) := by
  have hlen : s + news.length = (key.take s ++ news).length := by rw [List.length_append, List.length_take, Nat.min_eq_left hs]
  rcases h with ⟨h0, e⟩ | ⟨g, c', n, e, h2, h3, h4, h5⟩
  · subst h0
    cases e
    obtain rfl : s = 0 := by simpa using hs
    rcases Nat.eq_zero_or_pos news.length with q | q
    · obtain rfl : news = [] := List.eq_nil_of_length_eq_zero q
      refine ⟨none, 0, w, fun ty => run_append_nothing w 22 22 ty 5 Try.t5 Try.underlying22 info5 none 0 0 (Nat.le_refl _) x (src_of_bytes hx), .inl ⟨rfl, rfl⟩, Turns.refl _ _, fun k hk => by obtain ⟨_, _, e⟩ := hk; cases e⟩
    · obtain ⟨g, c', w', hr, hg, hrow, hb, hc', _, hnew, hkeep⟩ := append_bytes2 w B none 0 0 [] rfl x news news.length rfl hx hB (.inl ⟨rfl, rfl, rfl, q⟩) (by omega)
      refine ⟨some ⟨g, 0, none⟩, c', w', hr, .inr ⟨g, c', _, rfl, hlen, hc', hg, by simpa using hrow⟩, ⟨hb.os, hb.tape, hb.output, hb.size, fun k hk _ => hkeep k hk (by simp)⟩, fun k hk => .inr ?_⟩
      obtain ⟨_, _, e⟩ := hk
      cases e
      exact Nat.le_of_eq (hnew (by omega)).symm
  · injection e with e1 e2 e3
    subst e1 e3
    have hrow0 : RowB w g c (key.take s) := by
      obtain ⟨cs, k1, k2, k3⟩ := h5
      refine ⟨cs, k1, k2, fun k hk => ?_⟩
      rw [cellsOf_length, List.length_take] at hk
      rw [k3 k (by rw [cellsOf_length]; omega)]
      simp [cellsOf, show k < s by omega]
    obtain ⟨g', c', w', hr, hg, hrow, hb, hc', hin, hnew, hkeep⟩ := append_bytes2 w B (some ⟨g, 0, none⟩) s c (key.take s) (by rw [List.length_take, Nat.min_eq_left hs]) x news news.length rfl hx hB (.inr ⟨g, rfl, h4, by omega, hrow0⟩) (by omega)
    refine ⟨some ⟨g', 0, none⟩, c', w', hr, .inr ⟨g', c', _, rfl, hlen, hc', hg, hrow⟩, ⟨hb.os, hb.tape, hb.output, hb.size, fun k hk hn => hkeep k hk fun e => hn ⟨_, _, by rw [e]⟩⟩, fun k hk => ?_⟩
    obtain ⟨_, _, e⟩ := hk
    cases e
    rcases Nat.lt_or_ge c (s + news.length) with q | q
    · exact .inr (Nat.le_of_eq (hnew q).symm)
    · exact .inl ⟨_, _, by rw [(hin q).1]⟩
/-- The block's reader in memory. -/
structure RS (w : World) (q r : Nat) (p : List (BitVec 8)) (i : Nat) (e : Int) (kv ev rv : Value) (key : List (BitVec 8)) (R : List Tow) (ms : List Nat) : Prop where
  box : w.heap[q]? = some (.cells #[.pointer (some ⟨r, 0, none⟩), kv, ev, rv] 75 (0, 0))
  rd : Rdr w r p i e
  rq : r < q
  kr : KRow w (q + 1) kv key
  er : ERow w (q + 1) ev R
  ir : IRow w (q + 1) rv ms
  sh : Shown w (q + 1) R
  ke : ∀ k, inRow kv k → ¬ inRow ev k
  kI : ∀ k, inRow kv k → ¬ inRow rv k
  eI : ∀ k, inRow ev k → ¬ inRow rv k
  ap : ∀ x, x ∈ R → ∀ b, x.bytesIn b → ¬ inRow kv b ∧ ¬ inRow ev b ∧ ¬ inRow rv b
theorem Rdr.lt {w : World} {r : Nat} {p : List (BitVec 8)} {i : Nat} {e : Int} (h : Rdr w r p i e) : r < w.heap.size := by
  obtain ⟨_, _, hr, _⟩ := h
  exact lt_of_heap hr
/-- Only the bytes' reader has turned. -/
theorem RS.read {w w' : World} {q r : Nat} {p : List (BitVec 8)} {i i' : Nat} {e e' : Int} {kv ev rv : Value} {key : List (BitVec 8)} {R : List Tow} {ms : List Nat} (h : RS w q r p i e kv ev rv key R ms) (hr : Rdr w' r p i' e') (t : Turns (fun j => j = r) w w') : RS w' q r p i' e' kv ev rv key R ms where
  box := t.heap h.box (by have := h.rq; omega)
  rd := hr
  rq := h.rq
  kr := h.kr.keep t fun k hk e => by have := (h.kr.row hk).1; have := h.rq; omega
  er := h.er.keep t fun k hk e => by have := (h.er.row hk).1; have := h.rq; omega
  ir := h.ir.keep t fun k hk e => by have := (h.ir.row hk).1; have := h.rq; omega
  sh := h.sh.keep t fun x hx q' hq e => by have := ((h.sh x hx).2.2 q' hq).1; have := h.rq; omega
  ke := h.ke
  kI := h.kI
  eI := h.eI
  ap := h.ap
theorem RS.drewN {w : World} {q r : Nat} {p : List (BitVec 8)} {i : Nat} {e : Int} {kv ev rv : Value} {key : List (BitVec 8)} {R : List Tow} {ms : List Nat} (h : RS w q r p i e kv ev rv key R ms) (m : Nat) : RS (w.drewN m) q r p i e kv ev rv key R ms := h.read (h.rd.drewN m) (turnsN _ _)
theorem RS.quiet {w w' : World} {q r : Nat} {p : List (BitVec 8)} {i : Nat} {e : Int} {kv ev rv : Value} {key : List (BitVec 8)} {R : List Tow} {ms : List Nat} (h : RS w q r p i e kv ev rv key R ms) (t : Turns (fun _ => False) w w') : RS w' q r p i e kv ev rv key R ms := h.read (h.rd.turns t (fun x => x)) (t.mono fun _ _ x => x.elim)
theorem RS.lt {w : World} {q r : Nat} {p : List (BitVec 8)} {i : Nat} {e : Int} {kv ev rv : Value} {key : List (BitVec 8)} {R : List Tow} {ms : List Nat} (h : RS w q r p i e kv ev rv key R ms) : q < w.heap.size := lt_of_heap h.box
end Go.Proofs.Ytolaaodhnhdadaa
