/-
  What a file loses its name for; the closures of Remove and Rename.
-/
import Derived.Test.YtefjljdgdoklmaaDap
namespace Go.Proofs.Ytefjljdgdoklmaa
open Go.RowKit Go.Maps

set_option maxRecDepth 100000 in
set_option maxHeartbeats 1000000 in
theorem lose_none (f : Nat) (w : World) : Calls Try.prog 51 #[.pointer (some ⟨f, 0, none⟩), .pointer none] w fun e w' => (∃ v, e = .returned v) ∧ w' = w := by
  go_enter Try.func51, Try.ntmps51
  go_wp2_with fail
  go_end0
  exact ⟨⟨_, rfl⟩, rfl⟩

set_option maxRecDepth 100000 in
set_option maxHeartbeats 1000000 in
theorem lose_some (f g n : Nat) (a : Option Addr) (c : Nat) (s0 limit used lost ops fuse fault fail : Int) (on : Bool) (nm sy ch : Value) (w : World) (h : w.heap[f]? = some (.cells (fsCells limit nm sy ch used lost on ops fuse fault fail) 57 (0, 0))) (hx : w.heap[g]? = some (.cells #[.slice a n c, .int .i64 s0] 70 (0, 0))) (h1 : 0 ≤ lost ∧ lost ≤ 1073741824) (h2 : n ≤ 1073741824) :
    Calls Try.prog 51 #[.pointer (some ⟨f, 0, none⟩), .pointer (some ⟨g, 0, none⟩)] w fun e w' => (∃ v, e = .returned v) ∧ Tick w w' f 57 (fsCells limit nm sy ch used (lost + n) on ops fuse fault fail) := by
  have c5 : w.cell? ⟨f, 5, none⟩ = some (.int .i64 lost) := cell_of_row w f 5 _ 57 (0, 0) h
  have z5 : w.frozen? ⟨f, 5, none⟩ = false := frozen_of_row w f 5 _ 57 h
  have c0 : w.cell? ⟨g, 0, none⟩ = some (.slice a n c) := cell_of_row w g 0 _ 70 (0, 0) hx
  have T := hide (((Tick.refl h).set 5 (.int .i64 (lost + n))).drew)
  clear h hx
  go_enter Try.func51, Try.ntmps51
  go_wp2_with fail
  go_region_with (fail)
  all_goals go_wp2_with fail
  all_goals go_end0
  all_goals rw [wrapI _ (by omega) (by omega)]
  all_goals exact ⟨⟨_, rfl⟩, T.out⟩

set_option maxRecDepth 100000 in
set_option maxHeartbeats 1000000 in
theorem remove1_any (f b n pf pn g m : Nat) (a : Option Addr) (c : Nat) (D : DataW Unit) (l : List Chg) (name : ByteArray) (s0 limit used lost ops fuse fault fail : Int) (on : Bool) (sy ch : Value) (w : World) (h0 : w.cell? ⟨pf, 0, none⟩ = some (.pointer (some ⟨f, 0, none⟩))) (h1 : w.cell? ⟨pn, 0, none⟩ = some (.string name)) (hpf : pf ≠ f) (hpn : pn ≠ f)
    (h : w.heap[f]? = some (.cells (fsCells limit (.map (some b)) sy ch used lost on ops fuse fault fail) 57 (0, 0))) (hx : w.heap[g]? = some (.cells #[.slice a m c, .int .i64 s0] 70 (0, 0))) (hd : Dir w b n D) (hl : Chs w ch l) (hn : n < maxLen) (hlen : l.length ≤ 1000000000) (hs : name.size ≤ maxLen) (k1 : 0 ≤ lost ∧ lost ≤ 1073741824) (k2 : m ≤ 1073741824) :
    Calls Try.prog 70 #[.pointer (some ⟨g, 0, none⟩), .pointer (some ⟨pf, 0, none⟩), .pointer (some ⟨pn, 0, none⟩)] w fun e w' => e = .returned (.int .i64 0) ∧ ∃ ch', w'.heap[f]? = some (.cells (fsCells limit (.map (some b)) sy ch' used (lost + m) on ops fuse fault fail) 57 (0, 0)) ∧
      Dir w' b (n + 1) (applyD D ⟨name, ⟨#[]⟩, none⟩) ∧ Chs w' ch' (l ++ [⟨name, ⟨#[]⟩, none⟩]) ∧ Turns (fun k => k = f ∨ k = b ∨ inRow ch k) w w' ∧ ∀ k, inRow ch' k → inRow ch k ∨ w.heap.size ≤ k := by
  have hfb : f ≠ b := hd.ne_cells h
  have hrow : ∀ k, inRow ch k → ¬ k = f := fun k hk e => by
    obtain ⟨cs, hc⟩ := hl.row hk
    rw [e] at hc
    exact absurd (one_type h hc) (by decide)
  have H := hide h
  have HX := hide hx
  have HD := hide hd
  have HL := hide hl
  have HRW := hide hrow
  clear h hx hd hl hrow
  go_enter Try.func70, Try.ntmps70
  go_wp2_with fail
  refine (lose_some f g m a c s0 limit used lost ops fuse fault fail on _ sy ch _ H.out HX.out k1 k2).mono ?_
  rintro e w1 ⟨⟨v, rfl⟩, t1⟩
  have u1 := Turns.of_tick t1
  have y0 := u1.cell h0 hpf
  have y1 := u1.cell h1 hpn
  have T1 := hide t1.1
  have U1 := hide u1
  clear t1 u1 h0 h1
  go_wp2_with fail
  refine (change_any f b n D l ⟨name, ⟨#[]⟩, none⟩ limit used (lost + m) ops fuse fault fail on sy ch _ T1.out (HD.out.keep U1.out hfb.symm) (HL.out.keep U1.out HRW.out) hn hlen hs (by show (⟨#[]⟩ : ByteArray).size ≤ maxLen; decide)).mono ?_
  rintro e w2 ⟨⟨v, rfl⟩, ch', q1, q2, q3, q4, q5⟩
  have FIN : Hid (w2.heap[f]? = some (.cells (fsCells limit (.map (some b)) sy ch' used (lost + m) on ops fuse fault fail) 57 (0, 0)) ∧
      Dir w2 b (n + 1) (applyD D ⟨name, ⟨#[]⟩, none⟩) ∧ Chs w2 ch' (l ++ [⟨name, ⟨#[]⟩, none⟩]) ∧ Turns (fun k => k = f ∨ k = b ∨ inRow ch k) w w2 ∧ ∀ k, inRow ch' k → inRow ch k ∨ w.heap.size ≤ k) :=
    ⟨q1, q2, q3, (U1.out.mono fun k _ e => .inl e).trans q4, fun k hk => (q5 k hk).imp id fun e => Nat.le_trans U1.out.size e⟩
  clear q1 q2 q3 q4 q5
  go_wp2_with fail
  go_ret
  exact ⟨rfl, ch', FIN.out⟩

end Go.Proofs.Ytefjljdgdoklmaa
