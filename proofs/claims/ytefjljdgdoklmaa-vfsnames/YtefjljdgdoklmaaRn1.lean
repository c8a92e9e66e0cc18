/-
  The closure of Rename.
-/
import Derived.Test.YtefjljdgdoklmaaLos
namespace Go.Proofs.Ytefjljdgdoklmaa
open Go.RowKit Go.Maps

set_option maxRecDepth 100000 in
set_option maxHeartbeats 1000000 in
theorem rename1_same (pf pa pb : Nat) (x : Value) (s : ByteArray) (w : World) (h1 : w.cell? ⟨pa, 0, none⟩ = some (.string s)) (h2 : w.cell? ⟨pb, 0, none⟩ = some (.string s)) :
    Calls Try.prog 50 #[x, .pointer (some ⟨pa, 0, none⟩), .pointer (some ⟨pb, 0, none⟩), .pointer (some ⟨pf, 0, none⟩)] w fun e w' => e = .returned (.int .i64 0) ∧ w' = w := by
  go_enter Try.func50, Try.ntmps50
  go_wp2_with fail
  go_ret
  exact ⟨rfl, rfl⟩

/-- The directory behind a rename has lost the file that had the name. -/
def lostOf (o : Option Nat) : Int := match o with | none => 0 | some m => (m : Int)

set_option maxRecDepth 100000 in
set_option maxHeartbeats 4000000 in
theorem rename1_any (f b n pf pa pb g : Nat) (D : DataW Unit) (l : List Chg) (s t : ByteArray) (limit used lost ops fuse fault fail : Int) (on : Bool) (sy ch : Value) (o : Option Nat) (w : World) (h0 : w.cell? ⟨pf, 0, none⟩ = some (.pointer (some ⟨f, 0, none⟩))) (h1 : w.cell? ⟨pa, 0, none⟩ = some (.string s)) (h2 : w.cell? ⟨pb, 0, none⟩ = some (.string t)) (hpf : pf ≠ f) (hpa : pa ≠ f) (hpb : pb ≠ f) (hst : s ≠ t)
    (h : w.heap[f]? = some (.cells (fsCells limit (.map (some b)) sy ch used lost on ops fuse fault fail) 57 (0, 0))) (ho : match fileOf D t with | none => o = none | some q => ∃ a m c s0, o = some m ∧ w.heap[q]? = some (.cells #[.slice a m c, .int .i64 s0] 70 (0, 0)) ∧ m ≤ 1073741824) (hd : Dir w b n D) (hl : Chs w ch l) (hn : n < maxLen) (hlen : l.length ≤ 1000000000) (hs : s.size ≤ maxLen) (ht : t.size ≤ maxLen) (k1 : 0 ≤ lost ∧ lost ≤ 1073741824) :
    Calls Try.prog 50 #[.pointer (some ⟨g, 0, none⟩), .pointer (some ⟨pa, 0, none⟩), .pointer (some ⟨pb, 0, none⟩), .pointer (some ⟨pf, 0, none⟩)] w fun e w' => e = .returned (.int .i64 0) ∧ ∃ ch', w'.heap[f]? = some (.cells (fsCells limit (.map (some b)) sy ch' used (lost + lostOf o) on ops fuse fault fail) 57 (0, 0)) ∧
      Dir w' b (n + 1) (applyD D ⟨s, t, some g⟩) ∧ Chs w' ch' (l ++ [⟨s, t, some g⟩]) ∧ Turns (fun k => k = f ∨ k = b ∨ inRow ch k) w w' ∧ ∀ k, inRow ch' k → inRow ch k ∨ w.heap.size ≤ k := by
  have hfb : f ≠ b := hd.ne_cells h
  have hrow : ∀ k, inRow ch k → ¬ k = f := fun k hk e => by
    obtain ⟨cs, hc⟩ := hl.row hk
    rw [e] at hc
    exact absurd (one_type h hc) (by decide)
  have hne : (s.toList == t.toList) = false := by
    rw [beq_eq_false_iff_ne]
    intro e
    rw [ByteArray.toList_eq, ByteArray.toList_eq] at e
    apply hst
    cases s; cases t
    congr
    exact Array.toList_inj.1 e
  have c1 : w.cell? ⟨f, 1, none⟩ = some (.map (some b)) := cell_of_row w f 1 _ 57 (0, 0) h
  have hlk := Dir.look' (w := w.drew) hd t ht
  have H := hide h
  have HD := hide hd
  have HL := hide hl
  have HRW := hide hrow
  obtain ⟨vt, hvt, hlose⟩ : ∃ vt : Option Nat, fileOf D t = vt ∧ Calls Try.prog 51 #[.pointer (some ⟨f, 0, none⟩), ptrOf vt] w.drew fun e w' => (∃ v, e = .returned v) ∧ w'.heap[f]? = some (.cells (fsCells limit (.map (some b)) sy ch used (lost + lostOf o) on ops fuse fault fail) 57 (0, 0)) ∧ Turns (fun k => k = f) w.drew w' := by
    cases e : fileOf D t with
    | none =>
      rw [e] at ho
      subst ho
      refine ⟨none, rfl, (lose_none f w.drew).mono ?_⟩
      rintro e w' ⟨he, rfl⟩
      refine ⟨he, ?_, Turns.refl _ _⟩
      rw [show lost + lostOf none = lost from Int.add_zero _]
      exact h
    | some q =>
      rw [e] at ho
      obtain ⟨a, m, c, s0, rfl, hq, hm⟩ := ho
      refine ⟨some q, rfl, (lose_some f q m a c s0 limit used lost ops fuse fault fail on _ sy ch w.drew h hq k1 hm).mono ?_⟩
      rintro e w' ⟨he, t⟩
      exact ⟨he, t.1, Turns.of_tick t⟩
  rw [hvt] at hlk
  have HLO := hide hlose
  clear h hd hl hrow ho hlose hst
  go_enter Try.func50, Try.ntmps50
  go_wp2_with fail
  go_region_held (fun w' => w'.cell? ⟨pf, 0, none⟩ = some (.pointer (some ⟨f, 0, none⟩)) ∧ w'.cell? ⟨pb, 0, none⟩ = some (.string t) ∧ w'.cell? ⟨f, 1, none⟩ = some (.map (some b))) (first | (with_reducible exact ⟨y0, y2, y1⟩) | (simp only [World.cell?_drew]; with_reducible exact ⟨h0, h2, c1⟩)) (first
    | (go_at_call 51; refine HLO.out.mono ?_; rintro e w1 ⟨⟨v, rfl⟩, q1, q2⟩; have y0 := q2.cell (a := w.drew) h0 hpf; have y2 := q2.cell (a := w.drew) h2 hpb; have ya := q2.cell (a := w.drew) h1 hpa; have y1 : w1.cell? ⟨f, 1, none⟩ = some (.map (some b)) := cell_of_row w1 f 1 _ 57 (0, 0) q1; have Q1 := hide q1; have Q2 := hide ((Turns.refl _ w).drew.trans q2); clear q1 q2))
  go_wp2_with fail
  refine (change_any f b n D l ⟨s, t, some g⟩ limit used (lost + lostOf o) ops fuse fault fail on sy ch _ Q1.out (HD.out.keep Q2.out hfb.symm) (HL.out.keep Q2.out HRW.out) hn hlen hs ht).mono ?_
  rintro e w2 ⟨⟨v, rfl⟩, ch', q1, q2, q3, q4, q5⟩
  have FIN : Hid (w2.heap[f]? = some (.cells (fsCells limit (.map (some b)) sy ch' used (lost + lostOf o) on ops fuse fault fail) 57 (0, 0)) ∧
      Dir w2 b (n + 1) (applyD D ⟨s, t, some g⟩) ∧ Chs w2 ch' (l ++ [⟨s, t, some g⟩]) ∧ Turns (fun k => k = f ∨ k = b ∨ inRow ch k) w w2 ∧ ∀ k, inRow ch' k → inRow ch k ∨ w.heap.size ≤ k) :=
    ⟨q1, q2, q3, (Q2.out.mono fun k _ e => .inl e).trans q4, fun k hk => (q5 k hk).imp id fun e => Nat.le_trans Q2.out.size e⟩
  clear q1 q2 q3 q4 q5
  go_wp2_with fail
  go_ret
  exact ⟨rfl, ch', FIN.out⟩
end Go.Proofs.Ytefjljdgdoklmaa
