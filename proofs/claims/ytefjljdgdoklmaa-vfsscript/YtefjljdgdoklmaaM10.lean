import Derived.Test.YtefjljdgdoklmaaM09
import Derived.Test.YtefjljdgdoklmaaM07
/-
  What a file loses its name for; the closures of Remove and Rename.
-/
namespace Go.Proofs.Ytefjljdgdoklmaa
open Go.RowKit Go.Maps

set_option maxRecDepth 100000 in
set_option maxHeartbeats 1000000 in
theorem lose_none (f : Nat) (w : World) : Calls Try.prog 51 #[.pointer (some ⟨f, 0, none⟩), .pointer none] w fun e w' => (∃ v, e = .returned v) ∧ w' = w := by
  go_enter Try.func51, Try.ntmps51
  go_wp2_with fail
  go_end0
  exact ⟨⟨_, rfl⟩, rfl⟩

set_option maxRecDepth 100000 in
set_option maxHeartbeats 1000000 in
theorem lose_some (f g n : Nat) (a : Option Addr) (c : Nat) (s0 limit used lost ops fuse fault fail : Int) (on : Bool) (nm sy ch : Value) (w : World) (h : w.heap[f]? = some (.cells (fsCells limit nm sy ch used lost on ops fuse fault fail) 57 (0, 0))) (hx : w.heap[g]? = some (.cells #[.slice a n c, .int .i64 s0] 70 (0, 0))) (h1 : 0 ≤ lost ∧ lost ≤ 1073741824) (h2 : n ≤ 1073741824) :
    Calls Try.prog 51 #[.pointer (some ⟨f, 0, none⟩), .pointer (some ⟨g, 0, none⟩)] w fun e w' => (∃ v, e = .returned v) ∧ Tick w w' f 57 (fsCells limit nm sy ch used (lost + n) on ops fuse fault fail) := by
  have c5 : w.cell? ⟨f, 5, none⟩ = some (.int .i64 lost) := cell_of_row w f 5 _ 57 (0, 0) h
  have z5 : w.frozen? ⟨f, 5, none⟩ = false := frozen_of_row w f 5 _ 57 h
  have c0 : w.cell? ⟨g, 0, none⟩ = some (.slice a n c) := cell_of_row w g 0 _ 70 (0, 0) hx
  have T := hide (((Tick.refl h).set 5 (.int .i64 (lost + n))).drew)
  clear h hx
  go_enter Try.func51, Try.ntmps51
  go_wp2_with fail
  go_region_with (fail)
  all_goals go_wp2_with fail
  all_goals go_end0
  all_goals rw [wrapI _ (by omega) (by omega)]
  all_goals exact ⟨⟨_, rfl⟩, T.out⟩

set_option maxRecDepth 100000 in
set_option maxHeartbeats 1000000 in
theorem remove1_any (f b n pf pn g m : Nat) (a : Option Addr) (c : Nat) (D : DataW Unit) (l : List Chg) (name : ByteArray) (s0 limit used lost ops fuse fault fail : Int) (on : Bool) (sy ch : Value) (w : World) (h0 : w.cell? ⟨pf, 0, none⟩ = some (.pointer (some ⟨f, 0, none⟩))) (h1 : w.cell? ⟨pn, 0, none⟩ = some (.string name)) (hpf : pf ≠ f) (hpn : pn ≠ f)
    (h : w.heap[f]? = some (.cells (fsCells limit (.map (some b)) sy ch used lost on ops fuse fault fail) 57 (0, 0))) (hx : w.heap[g]? = some (.cells #[.slice a m c, .int .i64 s0] 70 (0, 0))) (hd : Dir w b n D) (hl : Chs w ch l) (hn : n < maxLen) (hlen : l.length ≤ 1000000000) (hs : name.size ≤ maxLen) (k1 : 0 ≤ lost ∧ lost ≤ 1073741824) (k2 : m ≤ 1073741824) :
    Calls Try.prog 70 #[.pointer (some ⟨g, 0, none⟩), .pointer (some ⟨pf, 0, none⟩), .pointer (some ⟨pn, 0, none⟩)] w fun e w' => e = .returned (.int .i64 0) ∧ ∃ ch', w'.heap[f]? = some (.cells (fsCells limit (.map (some b)) sy ch' used (lost + m) on ops fuse fault fail) 57 (0, 0)) ∧
      Dir w' b (n + 1) (applyD D ⟨name, ⟨#[]⟩, none⟩) ∧ Chs w' ch' (l ++ [⟨name, ⟨#[]⟩, none⟩]) ∧ Turns (fun k => k = f ∨ k = b ∨ inRow ch k) w w' ∧ ∀ k, inRow ch' k → inRow ch k ∨ w.heap.size ≤ k := by
  have hfb : f ≠ b := hd.ne_cells h
  have hrow : ∀ k, inRow ch k → ¬ k = f := fun k hk e => by
    obtain ⟨cs, hc⟩ := hl.row hk
    rw [e] at hc
    exact absurd (one_type h hc) (by decide)
  have H := hide h
  have HX := hide hx
  have HD := hide hd
  have HL := hide hl
  have HRW := hide hrow
  clear h hx hd hl hrow
  go_enter Try.func70, Try.ntmps70
  go_wp2_with fail
  refine (lose_some f g m a c s0 limit used lost ops fuse fault fail on _ sy ch _ H.out HX.out k1 k2).mono ?_
  rintro e w1 ⟨⟨v, rfl⟩, t1⟩
  have u1 := Turns.of_tick t1
  have y0 := u1.cell h0 hpf
  have y1 := u1.cell h1 hpn
  have T1 := hide t1.1
  have U1 := hide u1
  clear t1 u1 h0 h1
  go_wp2_with fail
  refine (change_any f b n D l ⟨name, ⟨#[]⟩, none⟩ limit used (lost + m) ops fuse fault fail on sy ch _ T1.out (HD.out.keep U1.out hfb.symm) (HL.out.keep U1.out HRW.out) hn hlen hs (by show (⟨#[]⟩ : ByteArray).size ≤ maxLen; decide)).mono ?_
  rintro e w2 ⟨⟨v, rfl⟩, ch', q1, q2, q3, q4, q5⟩
  have FIN : Hid (w2.heap[f]? = some (.cells (fsCells limit (.map (some b)) sy ch' used (lost + m) on ops fuse fault fail) 57 (0, 0)) ∧
      Dir w2 b (n + 1) (applyD D ⟨name, ⟨#[]⟩, none⟩) ∧ Chs w2 ch' (l ++ [⟨name, ⟨#[]⟩, none⟩]) ∧ Turns (fun k => k = f ∨ k = b ∨ inRow ch k) w w2 ∧ ∀ k, inRow ch' k → inRow ch k ∨ w.heap.size ≤ k) :=
    ⟨q1, q2, q3, (U1.out.mono fun k _ e => .inl e).trans q4, fun k hk => (q5 k hk).imp id fun e => Nat.le_trans U1.out.size e⟩
  clear q1 q2 q3 q4 q5
  go_wp2_with fail
  go_ret
  exact ⟨rfl, ch', FIN.out⟩

end Go.Proofs.Ytefjljdgdoklmaa

/-
  The closure of Rename.
-/
namespace Go.Proofs.Ytefjljdgdoklmaa
open Go.RowKit Go.Maps

set_option maxRecDepth 100000 in
set_option maxHeartbeats 1000000 in
theorem rename1_same (pf pa pb : Nat) (x : Value) (s : ByteArray) (w : World) (h1 : w.cell? ⟨pa, 0, none⟩ = some (.string s)) (h2 : w.cell? ⟨pb, 0, none⟩ = some (.string s)) :
    Calls Try.prog 50 #[x, .pointer (some ⟨pa, 0, none⟩), .pointer (some ⟨pb, 0, none⟩), .pointer (some ⟨pf, 0, none⟩)] w fun e w' => e = .returned (.int .i64 0) ∧ w' = w := by
  go_enter Try.func50, Try.ntmps50
  go_wp2_with fail
  go_ret
  exact ⟨rfl, rfl⟩

/-- The directory behind a rename has lost the file that had the name. -/
def lostOf (o : Option Nat) : Int := match o with | none => 0 | some m => (m : Int)

set_option maxRecDepth 100000 in
set_option maxHeartbeats 4000000 in
theorem rename1_any (f b n pf pa pb g : Nat) (D : DataW Unit) (l : List Chg) (s t : ByteArray) (limit used lost ops fuse fault fail : Int) (on : Bool) (sy ch : Value) (o : Option Nat) (w : World) (h0 : w.cell? ⟨pf, 0, none⟩ = some (.pointer (some ⟨f, 0, none⟩))) (h1 : w.cell? ⟨pa, 0, none⟩ = some (.string s)) (h2 : w.cell? ⟨pb, 0, none⟩ = some (.string t)) (hpf : pf ≠ f) (hpa : pa ≠ f) (hpb : pb ≠ f) (hst : s ≠ t)
    (h : w.heap[f]? = some (.cells (fsCells limit (.map (some b)) sy ch used lost on ops fuse fault fail) 57 (0, 0))) (ho : match fileOf D t with | none => o = none | some q => ∃ a m c s0, o = some m ∧ w.heap[q]? = some (.cells #[.slice a m c, .int .i64 s0] 70 (0, 0)) ∧ m ≤ 1073741824) (hd : Dir w b n D) (hl : Chs w ch l) (hn : n < maxLen) (hlen : l.length ≤ 1000000000) (hs : s.size ≤ maxLen) (ht : t.size ≤ maxLen) (k1 : 0 ≤ lost ∧ lost ≤ 1073741824) :
    Calls Try.prog 50 #[.pointer (some ⟨g, 0, none⟩), .pointer (some ⟨pa, 0, none⟩), .pointer (some ⟨pb, 0, none⟩), .pointer (some ⟨pf, 0, none⟩)] w fun e w' => e = .returned (.int .i64 0) ∧ ∃ ch', w'.heap[f]? = some (.cells (fsCells limit (.map (some b)) sy ch' used (lost + lostOf o) on ops fuse fault fail) 57 (0, 0)) ∧
      Dir w' b (n + 1) (applyD D ⟨s, t, some g⟩) ∧ Chs w' ch' (l ++ [⟨s, t, some g⟩]) ∧ Turns (fun k => k = f ∨ k = b ∨ inRow ch k) w w' ∧ ∀ k, inRow ch' k → inRow ch k ∨ w.heap.size ≤ k := by
  have hfb : f ≠ b := hd.ne_cells h
  have hrow : ∀ k, inRow ch k → ¬ k = f := fun k hk e => by
    obtain ⟨cs, hc⟩ := hl.row hk
    rw [e] at hc
    exact absurd (one_type h hc) (by decide)
  have hne : (s.toList == t.toList) = false := by
    rw [beq_eq_false_iff_ne]
    intro e
    rw [ByteArray.toList_eq, ByteArray.toList_eq] at e
    apply hst
    cases s; cases t
    congr
    exact Array.toList_inj.1 e
  have c1 : w.cell? ⟨f, 1, none⟩ = some (.map (some b)) := cell_of_row w f 1 _ 57 (0, 0) h
  have hlk := Dir.look' (w := w.drew) hd t ht
  have H := hide h
  have HD := hide hd
  have HL := hide hl
  have HRW := hide hrow
  obtain ⟨vt, hvt, hlose⟩ : ∃ vt : Option Nat, fileOf D t = vt ∧ Calls Try.prog 51 #[.pointer (some ⟨f, 0, none⟩), ptrOf vt] w.drew fun e w' => (∃ v, e = .returned v) ∧ w'.heap[f]? = some (.cells (fsCells limit (.map (some b)) sy ch used (lost + lostOf o) on ops fuse fault fail) 57 (0, 0)) ∧ Turns (fun k => k = f) w.drew w' := by
    cases e : fileOf D t with
    | none =>
      rw [e] at ho
      subst ho
      refine ⟨none, rfl, (lose_none f w.drew).mono ?_⟩
      rintro e w' ⟨he, rfl⟩
      refine ⟨he, ?_, Turns.refl _ _⟩
      rw [show lost + lostOf none = lost from Int.add_zero _]
      exact h
    | some q =>
      rw [e] at ho
      obtain ⟨a, m, c, s0, rfl, hq, hm⟩ := ho
      refine ⟨some q, rfl, (lose_some f q m a c s0 limit used lost ops fuse fault fail on _ sy ch w.drew h hq k1 hm).mono ?_⟩
      rintro e w' ⟨he, t⟩
      exact ⟨he, t.1, Turns.of_tick t⟩
  rw [hvt] at hlk
  have HLO := hide hlose
  clear h hd hl hrow ho hlose hst
  go_enter Try.func50, Try.ntmps50
  go_wp2_with fail
  go_region_held (fun w' => w'.cell? ⟨pf, 0, none⟩ = some (.pointer (some ⟨f, 0, none⟩)) ∧ w'.cell? ⟨pb, 0, none⟩ = some (.string t) ∧ w'.cell? ⟨f, 1, none⟩ = some (.map (some b))) (first | (with_reducible exact ⟨y0, y2, y1⟩) | (simp only [World.cell?_drew]; with_reducible exact ⟨h0, h2, c1⟩)) (first
    | (go_at_call 51; refine HLO.out.mono ?_; rintro e w1 ⟨⟨v, rfl⟩, q1, q2⟩; have y0 := q2.cell (a := w.drew) h0 hpf; have y2 := q2.cell (a := w.drew) h2 hpb; have ya := q2.cell (a := w.drew) h1 hpa; have y1 : w1.cell? ⟨f, 1, none⟩ = some (.map (some b)) := cell_of_row w1 f 1 _ 57 (0, 0) q1; have Q1 := hide q1; have Q2 := hide ((Turns.refl _ w).drew.trans q2); clear q1 q2))
  go_wp2_with fail
  refine (change_any f b n D l ⟨s, t, some g⟩ limit used (lost + lostOf o) ops fuse fault fail on sy ch _ Q1.out (HD.out.keep Q2.out hfb.symm) (HL.out.keep Q2.out HRW.out) hn hlen hs ht).mono ?_
  rintro e w2 ⟨⟨v, rfl⟩, ch', q1, q2, q3, q4, q5⟩
  have FIN : Hid (w2.heap[f]? = some (.cells (fsCells limit (.map (some b)) sy ch' used (lost + lostOf o) on ops fuse fault fail) 57 (0, 0)) ∧
      Dir w2 b (n + 1) (applyD D ⟨s, t, some g⟩) ∧ Chs w2 ch' (l ++ [⟨s, t, some g⟩]) ∧ Turns (fun k => k = f ∨ k = b ∨ inRow ch k) w w2 ∧ ∀ k, inRow ch' k → inRow ch k ∨ w.heap.size ≤ k) :=
    ⟨q1, q2, q3, (Q2.out.mono fun k _ e => .inl e).trans q4, fun k hk => (q5 k hk).imp id fun e => Nat.le_trans Q2.out.size e⟩
  clear q1 q2 q3 q4 q5
  go_wp2_with fail
  go_ret
  exact ⟨rfl, ch', FIN.out⟩
end Go.Proofs.Ytefjljdgdoklmaa

/-
  Reading a file, whatever its bytes and wherever one begins.
-/
namespace Go.Proofs.Ytefjljdgdoklmaa
open Go.RowKit Go.Maps

set_option maxRecDepth 100000 in
set_option maxHeartbeats 1000000 in
theorem read_past (g k c L : Nat) (s0 : Int) (at' n : Nat) (w : World) (h : w.heap[g]? = some (.cells #[.slice (some ⟨k, 0, none⟩) L c, .int .i64 s0] 70 (0, 0))) (hc : L ≤ c) (hL2 : L ≤ 1073741824) (h2 : n ≤ 9223372036854775807) (ha : L ≤ at') :
    Calls Try.prog 53 #[.pointer (some ⟨g, 0, none⟩), .int .i64 (at' : Nat), .int .i64 (n : Nat)] w fun e w' => ∃ q cq, e = .returned (.slice (some ⟨q, 0, none⟩) 0 cq) ∧ w.heap.size ≤ q ∧ RowB w' q cq [] ∧ Below w.heap.size w w' := by
  have c0 : w.cell? ⟨g, 0, none⟩ = some (.slice (some ⟨k, 0, none⟩) L c) := cell_of_row w g 0 _ 70 (0, 0) h
  clear h
  have g1 : ¬ (at' : Int) < (L : Int) := by omega
  have hcs : (at' = L ∨ L < at') ∧ (n = 0 ∨ 0 < n) := by omega
  obtain ⟨rfl | hlt, rfl | hn0⟩ := hcs
  all_goals
    go_enter Try.func53, Try.ntmps53
    go_wp2_with fail
    go_quiet (fail)
    go_wp2_with fail
  all_goals
    refine (clone_some _ 0 _ [] rfl (w.drewN nq) (Bytes.nothing _ _) (by simp)).mono ?_
    rintro e w2 ⟨q, cq, rfl, hq, hcq, hr, hb⟩
    have B2 : Hid (Below w.heap.size w w2) := (below_drewN (Below.refl _ _) nq).trans hb
    have R2 := hide hr
    clear hr hb
    go_wp2_with fail
    go_ret
    exact ⟨q, cq, rfl, hq, R2.out, B2.out⟩

set_option maxRecDepth 100000 in
set_option maxHeartbeats 1000000 in
theorem read_nil (g : Nat) (s0 : Int) (at' n : Nat) (w : World) (h : w.heap[g]? = some (.cells #[.slice none 0 0, .int .i64 s0] 70 (0, 0))) (h1 : at' ≤ 9223372036854775807) (h2 : n ≤ 9223372036854775807) :
    Calls Try.prog 53 #[.pointer (some ⟨g, 0, none⟩), .int .i64 (at' : Nat), .int .i64 (n : Nat)] w fun e w' => e = .returned (.slice none 0 0) ∧ Below w.heap.size w w' := by
  have c0 : w.cell? ⟨g, 0, none⟩ = some (.slice none 0 0) := cell_of_row w g 0 _ 70 (0, 0) h
  clear h
  have hcs : (at' = 0 ∨ 0 < at') ∧ (n = 0 ∨ 0 < n) := by omega
  obtain ⟨rfl | hlt, rfl | hn0⟩ := hcs
  all_goals
    go_enter Try.func53, Try.ntmps53
    go_wp2_with fail
    go_quiet (fail)
    go_wp2_with fail
  all_goals
    refine (clone_nil _).mono ?_
    rintro e w2 ⟨rfl, rfl⟩
    go_wp2_with fail
    go_ret
    exact ⟨rfl, below_drewN (Below.refl _ _) nq⟩

/-- What Read answers of a file, in memory of its own. -/
theorem read_all (g : Nat) (v : Value) (s0 : Int) (bs : List (BitVec 8)) (at' n : Nat) (w : World) (h : w.heap[g]? = some (.cells #[v, .int .i64 s0] 70 (0, 0))) (hown : OwnB w v bs) (hL2 : bs.length ≤ 1073741824) (h1 : at' ≤ 9223372036854775807) (h2 : n ≤ 9223372036854775807) :
    Calls Try.prog 53 #[.pointer (some ⟨g, 0, none⟩), .int .i64 (at' : Nat), .int .i64 (n : Nat)] w fun e w' => ∃ a m c, e = .returned (.slice a m c) ∧ OwnB w' (.slice a m c) (readOf bs at' n) ∧ (∀ k, inRow (.slice a m c) k → w.heap.size ≤ k) ∧ Below w.heap.size w w' := by
  rcases hown with ⟨rfl, rfl⟩ | ⟨k, c, L, rfl, rfl, hc, hrow⟩
  · refine (read_nil g s0 at' n w h h1 h2).mono ?_
    rintro e w' ⟨rfl, hb⟩
    refine ⟨none, 0, 0, rfl, .inl ⟨by simp [readOf], rfl⟩, fun k hk => ?_, hb⟩
    obtain ⟨_, _, e⟩ := hk
    cases e
  · rcases Nat.lt_or_ge at' bs.length with hlt | hge
    · refine (read_in g k c bs.length s0 bs at' n w h rfl hrow hc hL2 h1 h2 hlt).mono ?_
      rintro e w' ⟨q, m, cq, rfl, hm, hq, hcq, hr, hb⟩
      refine ⟨_, m, cq, rfl, .inr ⟨q, cq, m, rfl, hm, hcq, hr⟩, fun k hk => ?_, hb⟩
      obtain ⟨_, _, e⟩ := hk
      cases e
      exact hq
    · refine (read_past g k c bs.length s0 at' n w h hc hL2 h2 hge).mono ?_
      rintro e w' ⟨q, cq, rfl, hq, hr, hb⟩
      have hnil : readOf bs at' n = [] := by unfold readOf; rw [List.drop_eq_nil_of_le hge, List.take_nil]
      refine ⟨_, 0, cq, rfl, .inr ⟨q, cq, 0, rfl, by rw [hnil]; rfl, Nat.zero_le _, by rw [hnil]; exact hr⟩, fun k hk => ?_, hb⟩
      obtain ⟨_, _, e⟩ := hk
      cases e
      exact hq

set_option maxRecDepth 100000 in
set_option maxHeartbeats 1000000 in
theorem read1_all (g pa pn pb : Nat) (v : Value) (s0 : Int) (bs : List (BitVec 8)) (at' n : Nat) (w : World) (ha : w.cell? ⟨pa, 0, none⟩ = some (.int .i64 (at' : Nat))) (hn : w.cell? ⟨pn, 0, none⟩ = some (.int .i64 (n : Nat))) (hp : w.heap[pb]? = some (.cells #[.slice none 0 0] 28 (0, 0)))
    (h : w.heap[g]? = some (.cells #[v, .int .i64 s0] 70 (0, 0))) (hown : OwnB w v bs) (hL2 : bs.length ≤ 1073741824) (h1 : at' ≤ 9223372036854775807) (h2 : n ≤ 9223372036854775807) :
    Calls Try.prog 52 #[.pointer (some ⟨g, 0, none⟩), .pointer (some ⟨pa, 0, none⟩), .pointer (some ⟨pn, 0, none⟩), .pointer (some ⟨pb, 0, none⟩)] w fun e w' => e = .returned (.int .i64 0) ∧ ∃ a m c, w'.cell? ⟨pb, 0, none⟩ = some (.slice a m c) ∧ OwnB w' (.slice a m c) (readOf bs at' n) ∧ (∀ k, inRow (.slice a m c) k → w.heap.size ≤ k) ∧ Turns (fun j => j = pb) w w' := by
  have H := hide h
  have HO := hide hown
  have HP := hide hp
  have hpw := lt_of_heap hp
  clear h hown hp
  go_enter Try.func52, Try.ntmps52
  go_wp2_with fail
  refine (read_all g v s0 bs at' n _ H.out HO.out hL2 h1 h2).mono ?_
  rintro e w1 ⟨a, m, c, rfl, ho, hq, hb⟩
  have HP1 := hide (heap_keep hb HP.out)
  have p0 : w1.cell? ⟨pb, 0, none⟩ = some (.slice none 0 0) := cell_of_row w1 pb 0 _ 28 (0, 0) HP1.out
  have z0 : w1.frozen? ⟨pb, 0, none⟩ = false := frozen_of_row w1 pb 0 _ 28 HP1.out
  have t1 := (Tick.refl HP1.out).set 0 (.slice a m c)
  have u1 := Turns.of_tick t1
  have FIN : Hid ((w1.setCell ⟨pb, 0, none⟩ (.slice a m c)).cell? ⟨pb, 0, none⟩ = some (.slice a m c) ∧ OwnB (w1.setCell ⟨pb, 0, none⟩ (.slice a m c)) (.slice a m c) (readOf bs at' n) ∧ (∀ k, inRow (.slice a m c) k → w.heap.size ≤ k) ∧ Turns (fun j => j = pb) w (w1.setCell ⟨pb, 0, none⟩ (.slice a m c))) :=
    ⟨t1.cell 0, ho.keep u1 (fun k hk (e : k = pb) => by have := hq k hk; omega), hq, (Turns.of_below hb _).trans u1⟩
  clear t1 u1 ho hq hb
  go_wp2_with fail
  go_ret
  exact ⟨rfl, a, m, c, FIN.out⟩
end Go.Proofs.Ytefjljdgdoklmaa

/-
  Read goes through the guard, whatever its numbers are.
-/
namespace Go.Proofs.Ytefjljdgdoklmaa
open Go.RowKit Go.Maps

set_option maxRecDepth 100000 in
set_option maxHeartbeats 4000000 in
theorem read_via_all (p : Option Addr) (name : ByteArray) (at' n : Int) (w : World) (R : Ending → World → Prop)
    (HR : ∀ w1, Turns (fun _ => False) w w1 → w1.cell? ⟨w.heap.size, 0, none⟩ = some (.int .i64 at') → w1.cell? ⟨w.heap.size + 1, 0, none⟩ = some (.int .i64 n) → w1.heap[w.heap.size + 2]? = some (.cells #[.slice none 0 0] 28 (0, 0)) → OnVars w1 (w.heap.size + 3) p name 52 #[.pointer (some ⟨w.heap.size, 0, none⟩), .pointer (some ⟨w.heap.size + 1, 0, none⟩), .pointer (some ⟨w.heap.size + 2, 0, none⟩)] →
      Calls Try.prog 36 #[.pointer p, .bool (goodN name && decide (0 ≤ at') && decide (0 ≤ n)), onVal (w.heap.size + 3)] w1 fun e w' => ∃ (z : Int) (v : Value), e = .returned (.int .i64 z) ∧ w'.cell? ⟨w.heap.size + 2, 0, none⟩ = some v ∧ R (.returned (.tuple #[v, .int .i64 z])) w') :
    Calls Try.prog 20 #[.pointer p, .string name, .int .i64 at', .int .i64 n] w R := by
  have hmf := makeF
  have HRR := hide HR
  clear HR
  have hT : Turns (fun _ => False) w (((w.alloc (.cells #[.int .i64 at'] 3)).alloc (.cells #[.int .i64 n] 3)).alloc (.cells #[.slice none 0 0] 28)) := (((Turns.refl _ w).alloc _).alloc _).alloc _
  have x0 : (((w.alloc (.cells #[.int .i64 at'] 3)).alloc (.cells #[.int .i64 n] 3)).alloc (.cells #[.slice none 0 0] 28)).cell? ⟨w.heap.size, 0, none⟩ = some (.int .i64 at') := cell_of_row _ _ 0 _ 3 (0, 0) ((heap_alloc_old _ _ (by simp; omega)).trans ((heap_alloc_old _ _ (by simp)).trans (heap_alloc_new w _)))
  have x1 : (((w.alloc (.cells #[.int .i64 at'] 3)).alloc (.cells #[.int .i64 n] 3)).alloc (.cells #[.slice none 0 0] 28)).cell? ⟨w.heap.size + 1, 0, none⟩ = some (.int .i64 n) := cell_of_row _ _ 0 _ 3 (0, 0) ((heap_alloc_old _ _ (by simp)).trans (heap_alloc2_new w _ _))
  have x2 : (((w.alloc (.cells #[.int .i64 at'] 3)).alloc (.cells #[.int .i64 n] 3)).alloc (.cells #[.slice none 0 0] 28)).heap[w.heap.size + 2]? = some (.cells #[.slice none 0 0] 28 (0, 0)) := by
    have := heap_alloc_new ((w.alloc (.cells #[.int .i64 at'] 3)).alloc (.cells #[.int .i64 n] 3)) (.cells #[.slice none 0 0] 28)
    rwa [show ((w.alloc (.cells #[.int .i64 at'] 3)).alloc (.cells #[.int .i64 n] 3)).heap.size = w.heap.size + 2 by simp] at this
  have hs1 : (((w.alloc (.cells #[.int .i64 at'] 3)).alloc (.cells #[.int .i64 n] 3)).alloc (.cells #[.slice none 0 0] 28)).heap.size = w.heap.size + 3 := by simp
  have HT := hide hT
  have X2 := hide x2
  clear hT x2
  go_enter Try.func20, Try.ntmps20
  go_wp2_with fail
  generalize ((w.alloc (.cells #[.int .i64 at'] 3)).alloc (.cells #[.int .i64 n] 3)).alloc (.cells #[.slice none 0 0] 28) = w1 at *
  generalize hpf : w.heap.size = pf at *
  refine (name_any name _).mono ?_
  rintro e w2 ⟨rfl, rfl⟩
  have hcase : goodN name = false ∨ (goodN name = true ∧ at' < 0) ∨ (goodN name = true ∧ ¬ at' < 0 ∧ n < 0) ∨ (goodN name = true ∧ ¬ at' < 0 ∧ ¬ n < 0) := by
    cases goodN name
    · exact .inl rfl
    · by_cases h1 : at' < 0
      · exact .inr (.inl ⟨rfl, h1⟩)
      · by_cases h2 : n < 0
        · exact .inr (.inr (.inl ⟨rfl, h1, h2⟩))
        · exact .inr (.inr (.inr ⟨rfl, h1, h2⟩))
  rcases hcase with e1 | ⟨e1, e2⟩ | ⟨e1, e2, e3⟩ | ⟨e1, e2, e3⟩
  · rw [e1, Bool.false_and, Bool.false_and] at HRR
    rw [e1]
    go_wp2_with fail
    refine (onFile_any p name 52 _ _).mono ?_
    rintro e w4 ⟨rfl, k0, k1, k2, ht⟩
    rw [hs1] at k0 k1 k2 ⊢
    have HV : Hid (OnVars w4 (pf + 3) p name 52 _) := ⟨k0, k1, k2⟩
    have HC := hide (HRR.out w4 (HT.out.trans ht) (ht.cell x0 (fun x => x)) (ht.cell x1 (fun x => x)) (ht.heap X2.out (fun x => x)) HV.out)
    clear k0 k1 k2 ht
    go_wp2_with fail
    refine HC.out.mono ?_
    rintro e w5 ⟨z, v, rfl, hc, hz⟩
    have HZ := hide hz
    clear hz
    go_wp2_with fail
    exact HZ.out
  · rw [e1, Bool.true_and, decide_eq_false (by omega), Bool.false_and] at HRR
    rw [e1]
    go_wp2_with fail
    refine (onFile_any p name 52 _ _).mono ?_
    rintro e w4 ⟨rfl, k0, k1, k2, ht⟩
    rw [hs1] at k0 k1 k2 ⊢
    have HV : Hid (OnVars w4 (pf + 3) p name 52 _) := ⟨k0, k1, k2⟩
    have HC := hide (HRR.out w4 (HT.out.trans ht) (ht.cell x0 (fun x => x)) (ht.cell x1 (fun x => x)) (ht.heap X2.out (fun x => x)) HV.out)
    clear k0 k1 k2 ht
    go_wp2_with fail
    refine HC.out.mono ?_
    rintro e w5 ⟨z, v, rfl, hc, hz⟩
    have HZ := hide hz
    clear hz
    go_wp2_with fail
    exact HZ.out
  · rw [e1, Bool.true_and, decide_eq_true (by omega), Bool.true_and, decide_eq_false (by omega)] at HRR
    rw [e1]
    go_wp2_with fail
    refine (onFile_any p name 52 _ _).mono ?_
    rintro e w4 ⟨rfl, k0, k1, k2, ht⟩
    rw [hs1] at k0 k1 k2 ⊢
    have HV : Hid (OnVars w4 (pf + 3) p name 52 _) := ⟨k0, k1, k2⟩
    have HC := hide (HRR.out w4 (HT.out.trans ht) (ht.cell x0 (fun x => x)) (ht.cell x1 (fun x => x)) (ht.heap X2.out (fun x => x)) HV.out)
    clear k0 k1 k2 ht
    go_wp2_with fail
    rw [decide_eq_false (show ¬ 0 ≤ n by omega)]
    refine HC.out.mono ?_
    rintro e w5 ⟨z, v, rfl, hc, hz⟩
    have HZ := hide hz
    clear hz
    go_wp2_with fail
    exact HZ.out
  · rw [e1, Bool.true_and, decide_eq_true (by omega), Bool.true_and, decide_eq_true (by omega)] at HRR
    rw [e1]
    go_wp2_with fail
    refine (onFile_any p name 52 _ _).mono ?_
    rintro e w4 ⟨rfl, k0, k1, k2, ht⟩
    rw [hs1] at k0 k1 k2 ⊢
    have HV : Hid (OnVars w4 (pf + 3) p name 52 _) := ⟨k0, k1, k2⟩
    have HC := hide (HRR.out w4 (HT.out.trans ht) (ht.cell x0 (fun x => x)) (ht.cell x1 (fun x => x)) (ht.heap X2.out (fun x => x)) HV.out)
    clear k0 k1 k2 ht
    go_wp2_with fail
    refine HC.out.mono ?_
    rintro e w5 ⟨z, v, rfl, hc, hz⟩
    have HZ := hide hz
    clear hz
    go_wp2_with fail
    exact HZ.out
end Go.Proofs.Ytefjljdgdoklmaa
