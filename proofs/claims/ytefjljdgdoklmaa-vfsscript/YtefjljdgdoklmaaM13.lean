import Derived.Test.YtefjljdgdoklmaaM11
import Derived.Test.YtefjljdgdoklmaaM12
/-
  The document's Read.
-/
namespace Go.Proofs.Ytefjljdgdoklmaa
open Go.RowKit Go.Maps

set_option maxRecDepth 100000 in
set_option maxHeartbeats 2000000 in
theorem rread_bad (q : Nat) (name : ByteArray) (at' n : Int) (w : World) (hnm : name.size ≤ 1000) (hr : Disk.right name at' n = false) :
    Calls Try.prog 61 #[.pointer (some ⟨q, 0, none⟩), .string name, .int .i64 at', .int .i64 n] w fun e w' => e = .returned (.tuple #[.slice none 0 0, .int .i64 2]) ∧ w' = w := by
  unfold Disk.right at hr
  have hcase : goodN name = false ∨ (goodN name = true ∧ at' < 0) ∨ (goodN name = true ∧ ¬ at' < 0 ∧ n < 0) := by
    cases e : goodN name with
    | false => exact .inl rfl
    | true =>
      right
      rw [e, Bool.true_and, Bool.and_eq_false_iff, decide_eq_false_iff_not, decide_eq_false_iff_not] at hr
      by_cases h : at' < 0
      · exact .inl ⟨rfl, h⟩
      · exact .inr ⟨rfl, h, by omega⟩
  clear hr
  rcases hcase with e1 | ⟨e1, e2⟩ | ⟨e1, e2, e3⟩
  all_goals
    go_enter Try.func61, Try.ntmps61
    go_wp2_with fail
    refine (rname_any name _ hnm).mono ?_
    rintro e w1 ⟨rfl, rfl⟩
    rw [e1]
    go_wp2_with fail
    go_ret2
    exact ⟨rfl, rfl⟩

set_option maxRecDepth 100000 in
set_option maxHeartbeats 4000000 in
theorem rread_rep (A : Nat → Prop) (q : Nat) (r r1 : RDisk) (z : Int) (name : ByteArray) (at' n : Nat) (w : World) (h : RRep A w q r) (hn : RNum r) (hn1 : RNum r1) (hnm : name.size ≤ 1000) (hg : goodN name = true) (b1 : at' ≤ 9223372036854775807) (b2 : n ≤ 9223372036854775807) (hz : r.op = (z, r1)) (R : Ending → World → Prop)
    (HE : z ≠ 0 → ∀ w', RRep (Grow A w) w' q r1 → Turns A w w' → R (.returned (.tuple #[.slice none 0 0, .int .i64 z])) w')
    (HN : z = 0 → fileOf r1.now name = none → ∀ w', RRep (Grow A w) w' q r1 → Turns A w w' → R (.returned (.tuple #[.slice none 0 0, .int .i64 6])) w')
    (HS : z = 0 → ∀ g x w' a m c, fileOf r1.now name = some g → r1.files g = some x → OwnB w' (.slice a m c) (readOf x.bytes at' n) → (∀ k, inRow (.slice a m c) k → w.heap.size ≤ k) → RRep A w' q r1 → Turns A w w' → R (.returned (.tuple #[.slice a m c, .int .i64 0])) w') :
    Calls Try.prog 61 #[.pointer (some ⟨q, 0, none⟩), .string name, .int .i64 (at' : Nat), .int .i64 (n : Nat)] w R := by
  obtain ⟨bs, ch, fv, h⟩ := h
  have hB := rop_rep A q r w bs ch fv h hn
  rw [hz] at hB
  have HB := hide hB
  have hqa := h.af
  have HEE := hide HE
  have HNN := hide HN
  have HSS := hide HS
  have HN1 := hide hn1
  have hqw := lt_of_heap h.cells
  have g1 : ¬ (at' : Int) < 0 := by omega
  have g2 : ¬ (n : Int) < 0 := by omega
  clear hB h hn hz HE HN HS hn1
  go_enter Try.func61, Try.ntmps61
  go_wp2_with fail
  refine (rname_any name _ hnm).mono ?_
  rintro e w0 ⟨rfl, rfl⟩
  rw [hg]
  go_wp2_with fail
  refine HB.out.mono ?_
  rintro e w1 ⟨rfl, r1r, t1⟩
  have R1 := hide r1r
  have TW1 := hide t1
  have hsz1 := t1.size
  clear r1r t1 HB
  by_cases hz0 : z = 0
  · subst hz0
    go_wp2_with fail
    refine (rnow_rep A q r1 w1 ⟨bs, ch, fv, R1.out⟩ HN1.out).mono ?_
    rintro e w2 ⟨N, rfl, d2, b2'⟩
    have hlk := d2.look81 name (by unfold maxLen; omega)
    have t2 : Turns (fun _ => False) w1 w2 := Turns.of_below b2' _
    have R2 := hide (R1.out.quiet t2)
    have TA2 := hide ((TW1.out.trans (t2.mono fun _ _ x => x.elim)).mono (S' := A) fun k _ e => by rw [e]; exact hqa)
    have hsz2 := t2.size
    clear d2 b2' t2 R1 TW1
    cases hfile : fileOf r1.now name with
    | none =>
      rw [hfile] at hlk
      simp only [ptrOf] at hlk
      have HF := hide (HNN.out (by trivial) hfile w2 ⟨bs, ch, fv, R2.out.mono fun k _ hk => .inl hk⟩ TA2.out)
      clear hfile
      go_wp2_with fail
      exact HF.out
    | some g =>
      rw [hfile] at hlk
      simp only [ptrOf] at hlk
      obtain ⟨x, hx⟩ := R2.out.look hfile
      have hF := R2.out.files.each g x hx
      have hxb := (HN1.out.bytes g x hx).1
      obtain ⟨fa, fc, hfv⟩ := hF.own.slice
      have hc := hF.cell
      rw [hfv] at hc
      have c0 : w2.cell? ⟨g, 0, none⟩ = some (.slice fa x.bytes.length fc) := cell_of_row w2 g 0 _ 95 (0, 0) hc
      by_cases hat : at' < x.bytes.length
      · obtain ⟨k, hfa, hLc, hrow⟩ : ∃ k, fa = some ⟨k, 0, none⟩ ∧ x.bytes.length ≤ fc ∧ RowB w2 k fc x.bytes := by
          rcases hF.own with ⟨e, _⟩ | ⟨k, c, n', e, e2, e3, e4⟩
          · rw [e] at hat; simp at hat
          · rw [hfv] at e
            cases e
            exact ⟨k, rfl, e3, e4⟩
        subst hfa
        obtain ⟨m, hm⟩ : ∃ m, m = min n (x.bytes.length - at') := ⟨_, rfl⟩
        have hread : readOf x.bytes at' n = (x.bytes.drop at').take m := by
          unfold readOf
          rw [hm]
          by_cases hle : n ≤ x.bytes.length - at'
          · rw [Nat.min_eq_left hle]
          · rw [Nat.min_eq_right (by omega), List.take_of_length_le (by rw [List.length_drop]; omega), List.take_of_length_le (by rw [List.length_drop]; omega)]
        have hb : Below w2.heap.size w2 (w2.alloc (.cells #[] 5)) := (Below.refl _ _).alloc (Nat.le_refl _) _
        have hsrc : Bytes (w2.alloc (.cells #[] 5)) (.slice (some ⟨k, at', none⟩) m (fc - at')) ((x.bytes.drop at').take m) := by
          have := ((RowB.bytes (c' := fc) (n := x.bytes.length) hrow rfl).below hb).part at' m (fc - at') (by omega)
          rwa [Nat.zero_add] at this
        obtain ⟨g3, c3, w3, hr3, hg3, hrow3, hb3, hc3, _⟩ := append_bytes2 (w2.alloc (.cells #[] 5)) w2.heap.size (some ⟨w2.heap.size, 0, none⟩) 0 0 [] rfl (.slice (some ⟨k, at', none⟩) m (fc - at')) ((x.bytes.drop at').take m) m (by rw [List.length_take, List.length_drop]; omega) hsrc (by simp)
          (.inr ⟨_, rfl, Nat.le_refl _, Nat.le_refl _, #[], heap_alloc_new w2 _, Nat.le_refl _, fun k hk => by simp [cellsOf] at hk⟩) (by omega)
        rw [Nat.zero_add] at hr3 hc3
        rw [List.nil_append, ← hread] at hrow3
        have ht3 : Turns (fun _ => False) w2 w3 := Turns.of_below (hb.trans hb3) _
        have hml : m = (readOf x.bytes at' n).length := by rw [hread, List.length_take, List.length_drop]; omega
        have HF := hide (HSS.out (by trivial) g x w3 _ m c3 hfile hx (.inr ⟨g3, c3, m, rfl, hml, hc3, hrow3⟩) (fun k hk => by
          obtain ⟨_, _, e⟩ := hk
          cases e
          omega) ⟨bs, ch, fv, R2.out.quiet ht3⟩ (TA2.out.trans (ht3.mono fun _ _ x => x.elim)))
        have hq := hr3 28
        have c0a : (w2.alloc (.cells #[] 5)).cell? ⟨g, 0, none⟩ = some (.slice (some ⟨k, 0, none⟩) x.bytes.length fc) := (Turns.of_below hb (fun _ => False)).cell c0 (fun x => x)
        have i1 : (at' : Int) < (x.bytes.length : Int) := by omega
        have HM := hide hm
        clear hfile hx hF hfv hc hrow hread hb hsrc hr3 hrow3 hb3 ht3 hml hm
        generalize x.bytes.length = L at *
        by_cases hnl : n ≤ L - at'
        · obtain rfl : m = n := by have := HM.out; omega
          have i2 : ¬ (L : Int) - (at' : Int) < (m : Int) := by omega
          have i3 : (at' : Int) + (m : Int) ≤ (fc : Int) := by omega
          have hfa : ¬ fc = at' := by omega
          have hq' : (Builtin.append_ #[28, 28] 28 #[.slice (some ⟨w2.heap.size, 0, none⟩) 0 0, .slice (some ⟨k, at', none⟩) (at' + m - at') (fc - at')]).run Try.prog (w2.alloc (.cells #[] 5)) = .ok (.slice (some ⟨g3, 0, none⟩) m c3) w3 := by rw [Nat.add_sub_cancel_left]; exact hq
          clear HM hq
          go_wp2_with (at_builtin; refine wpList_append_run rfl _ _ 28 rfl _ _ rfl rfl _ _ hq' ?_)
          exact HF.out
        · obtain rfl : m = L - at' := by have := HM.out; omega
          have i2 : (L : Int) - (at' : Int) < (n : Int) := by omega
          have hsub : (L : Int) - (at' : Int) = ((L - at' : Nat) : Int) := by omega
          have i3 : (at' : Int) + ((L - at' : Nat) : Int) ≤ (fc : Int) := by omega
          have hfa : ¬ fc = at' := by omega
          clear HM
          generalize L - at' = m at *
          have hq' : (Builtin.append_ #[28, 28] 28 #[.slice (some ⟨w2.heap.size, 0, none⟩) 0 0, .slice (some ⟨k, at', none⟩) (at' + m - at') (fc - at')]).run Try.prog (w2.alloc (.cells #[] 5)) = .ok (.slice (some ⟨g3, 0, none⟩) m c3) w3 := by rw [Nat.add_sub_cancel_left]; exact hq
          clear hq
          go_wp2_with (at_builtin; refine wpList_append_run rfl _ _ 28 rfl _ _ rfl rfl _ _ hq' ?_)
          exact HF.out
      · have i1 : ¬ (at' : Int) < (x.bytes.length : Int) := by omega
        have hnil : readOf x.bytes at' n = [] := by unfold readOf; rw [List.drop_eq_nil_of_le (by omega), List.take_nil]
        have HF := hide (HSS.out (by trivial) g x w2 none 0 0 hfile hx (.inl ⟨hnil, rfl⟩) (fun k hk => by obtain ⟨_, _, e⟩ := hk; cases e) ⟨bs, ch, fv, R2.out⟩ TA2.out)
        clear hfile hx hF hfv hc hnil hat
        generalize x.bytes.length = L at *
        go_wp2_with fail
        exact HF.out
  · have hzz : (z != 0) = true := by rw [bne_iff_ne]; exact hz0
    have HF := hide (HEE.out hz0 w1 ⟨bs, ch, fv, R1.out.mono fun k _ hk => .inl hk⟩ (TW1.out.mono fun k _ e => by rw [e]; exact hqa))
    clear hz0
    go_wp2_with fail
    exact HF.out
end Go.Proofs.Ytefjljdgdoklmaa
