import Derived.Test.YtefjljdgdoklmaaM03
/-
  Create: a file without bytes becomes part of the directory, if its name is not there.
-/
namespace Go.Proofs.Ytefjljdgdoklmaa
open Go.RowKit Go.Maps

/-- What a look into a directory answers. -/
theorem Dir.look {w : World} {b n : Nat} {D : DataW Unit} (h : Dir w b n D) (s : ByteArray) (hs : s.size ≤ maxLen) :
    ∃ p : Option Nat, (Instr.lookup 53 (.map (some b)) (.string s) false).run Try.prog w = .ok (ptrOf p) w ∧ D.atKey (key s) .nil = match p with | none => .nil | some g => .lit (.int .i64 (g : Nat)) := by
  obtain ⟨v, ps, hr, hv⟩ := World.ownsMap.lookup h law9 Try.underlying53 (zero67 w) ptrR_none (keyOf9 s hs)
  rcases ptrR_inv hv with ⟨rfl, hd⟩ | ⟨g, rfl, hd⟩
  · exact ⟨none, hr, hd⟩
  · exact ⟨some g, hr, hd⟩
/-- Which file a name is. -/
def fileOf (D : DataW Unit) (s : ByteArray) : Option Nat :=
  match D.atKey (key s) .nil with
  | .lit (.int .i64 n) => some n.toNat
  | _ => none
theorem Dir.look' {w : World} {b n : Nat} {D : DataW Unit} (h : Dir w b n D) (s : ByteArray) (hs : s.size ≤ maxLen) :
    (Instr.lookup 53 (.map (some b)) (.string s) false).run Try.prog w = .ok (ptrOf (fileOf D s)) w := by
  obtain ⟨p, hr, hd⟩ := h.look s hs
  have : fileOf D s = p := by
    unfold fileOf
    rw [hd]
    cases p <;> simp
  rw [this]
  exact hr

set_option maxRecDepth 100000 in
set_option maxHeartbeats 1000000 in
theorem create1_there (f b n pf pn g : Nat) (D : DataW Unit) (name : ByteArray) (w : World) (h0 : w.cell? ⟨pf, 0, none⟩ = some (.pointer (some ⟨f, 0, none⟩))) (h1 : w.cell? ⟨pn, 0, none⟩ = some (.string name)) (h2 : w.cell? ⟨f, 1, none⟩ = some (.map (some b))) (hd : Dir w b n D) (hs : name.size ≤ maxLen) (hg : fileOf D name = some g) :
    Calls Try.prog 37 #[.pointer (some ⟨pf, 0, none⟩), .pointer (some ⟨pn, 0, none⟩)] w fun e w' => e = .returned (.int .i64 5) ∧ ∃ m, w' = w.drewN m := by
  have hl := fun m => Dir.look' (w := w.drewN m) hd name hs
  rw [hg] at hl
  simp only [ptrOf] at hl
  clear hd hg
  go_enter Try.func37, Try.ntmps37
  go_wp2_with fail
  go_quiet (fail)
  go_wp2_with fail
  go_ret
  exact ⟨rfl, _, rfl⟩

set_option maxRecDepth 100000 in
set_option maxHeartbeats 1000000 in
theorem create1_new (f b n pf pn : Nat) (D : DataW Unit) (l : List Chg) (name : ByteArray) (limit used lost ops fuse fault fail : Int) (on : Bool) (sy ch : Value) (w : World) (h0 : w.cell? ⟨pf, 0, none⟩ = some (.pointer (some ⟨f, 0, none⟩))) (h1 : w.cell? ⟨pn, 0, none⟩ = some (.string name))
    (h : w.heap[f]? = some (.cells (fsCells limit (.map (some b)) sy ch used lost on ops fuse fault fail) 57 (0, 0))) (hd : Dir w b n D) (hl : Chs w ch l) (hn : n < maxLen) (hlen : l.length ≤ 1000000000) (hs : name.size ≤ maxLen) (hg : fileOf D name = none) :
    Calls Try.prog 37 #[.pointer (some ⟨pf, 0, none⟩), .pointer (some ⟨pn, 0, none⟩)] w fun e w' => e = .returned (.int .i64 0) ∧ ∃ ch', w'.heap[f]? = some (.cells (fsCells limit (.map (some b)) sy ch' used lost on ops fuse fault fail) 57 (0, 0)) ∧
      w'.heap[w.heap.size]? = some (.cells #[.slice none 0 0, .int .i64 0] 70 (0, 0)) ∧ Dir w' b (n + 1) (applyD D ⟨⟨#[]⟩, name, some w.heap.size⟩) ∧ Chs w' ch' (l ++ [⟨⟨#[]⟩, name, some w.heap.size⟩]) ∧
      Turns (fun k => k = f ∨ k = b ∨ inRow ch k) w w' ∧ ∀ k, inRow ch' k → inRow ch k ∨ w.heap.size ≤ k := by
  have hlk := fun m => Dir.look' (w := w.drewN m) hd name hs
  rw [hg] at hlk
  simp only [ptrOf] at hlk
  have h2 : w.cell? ⟨f, 1, none⟩ = some (.map (some b)) := cell_of_row w f 1 _ 57 (0, 0) h
  have H := hide h
  have HD := hide hd
  have HL := hide hl
  clear hd hg h hl
  go_enter Try.func37, Try.ntmps37
  go_wp2_with fail
  go_quiet (fail)
  go_wp2_with fail
  have hfw := lt_of_heap H.out
  have t1 : Turns (fun _ => False) w ((w.drewN nq).alloc (.cells #[.slice none 0 0, .int .i64 0] 70)) := ((Turns.refl _ w).drewN nq).alloc _
  have hx : ((w.drewN nq).alloc (.cells #[.slice none 0 0, .int .i64 0] 70)).heap[w.heap.size]? = some (.cells #[.slice none 0 0, .int .i64 0] 70 (0, 0)) := heap_alloc_new (w.drewN nq) _
  have hd1 : Dir ((w.drewN nq).alloc (.cells #[.slice none 0 0, .int .i64 0] 70)) b n D := HD.out.keep t1 (fun x => x)
  have hl1 : Chs ((w.drewN nq).alloc (.cells #[.slice none 0 0, .int .i64 0] 70)) ch l := HL.out.keep t1 (fun _ _ x => x)
  have hrow : ∀ k, inRow ch k → k < w.heap.size := fun k hk => by
    obtain ⟨cs, hc⟩ := HL.out.row hk
    exact lt_of_heap hc
  refine (change_any f b n D l ⟨⟨#[]⟩, name, some w.heap.size⟩ limit used lost ops fuse fault fail on sy ch _ (t1.heap H.out (fun x => x)) hd1 hl1 hn hlen (by show (⟨#[]⟩ : ByteArray).size ≤ maxLen; decide) hs).mono ?_
  rintro e w2 ⟨⟨v, rfl⟩, ch', k1, k2, k3, k4, k5⟩
  have K1 := hide k1
  have K2 := hide k2
  have K3 := hide k3
  have hbw := HD.out.lt
  have K4 := hide (k4.heap hx (fun hh => by
    rcases hh with e | e | e
    · omega
    · omega
    · have := hrow _ e; omega))
  have K5 := hide ((t1.mono fun _ _ x => x.elim).trans k4)
  have K6 : Hid (∀ k, inRow ch' k → inRow ch k ∨ w.heap.size ≤ k) := fun k hk => (k5 k hk).imp id fun hle => Nat.le_trans t1.size hle
  clear k1 k2 k3 k4 k5 t1 hx hd1 hl1 hrow
  go_wp2_with fail
  go_ret
  exact ⟨rfl, ch', K1.out, K4.out, K2.out, K3.out, K5.out, K6.out⟩

theorem enters37 (caps : Array Value) (w : World) : (callFunc 37 caps).run Try.prog w = .ok (.enter 37 caps) w := by kernel_rfl

set_option maxRecDepth 100000 in
set_option maxHeartbeats 4000000 in
/-- Create goes through the guard with the name's test and its own closure. -/
theorem create_via (p : Option Addr) (name : ByteArray) (w : World) (R : Ending → World → Prop)
    (HR : ∀ w1 pf pn, Turns (fun _ => False) w w1 → w1.cell? ⟨pf, 0, none⟩ = some (.pointer p) → w1.cell? ⟨pn, 0, none⟩ = some (.string name) → w.heap.size ≤ pf → w.heap.size ≤ pn → Calls Try.prog 36 #[.pointer p, .bool (goodN name), .func (.func 37) #[] #[.pointer (some ⟨pf, 0, none⟩), .pointer (some ⟨pn, 0, none⟩)]] w1 fun e w' => ∃ z : Int, e = .returned (.int .i64 z) ∧ R (.returned (.int .i64 z)) w' ∧ Turns (fun k => k < w.heap.size) w1 w') :
    Calls Try.prog 9 #[.pointer p, .string name] w R := by
  have hmf : ∀ (fn : Fn) (first cap : Array Value) (w : World), (Instr.makeFunc fn first cap).run Try.prog w = .ok (.func fn first cap) w := fun _ _ _ _ => rfl
  have HRR := hide HR
  clear HR
  go_enter Try.func9, Try.ntmps9
  go_wp2_with fail
  have hT : Turns (fun _ => False) w ((w.alloc (.cells #[.pointer p] 22)).alloc (.cells #[.string name] 9)) := ((Turns.refl _ w).alloc _).alloc _
  have x0 : ((w.alloc (.cells #[.pointer p] 22)).alloc (.cells #[.string name] 9)).cell? ⟨w.heap.size, 0, none⟩ = some (.pointer p) := cell_of_row _ _ 0 _ 22 (0, 0) ((heap_alloc_old _ _ (by simp)).trans (heap_alloc_new w _))
  have x1 : ((w.alloc (.cells #[.pointer p] 22)).alloc (.cells #[.string name] 9)).cell? ⟨w.heap.size + 1, 0, none⟩ = some (.string name) := cell_of_row _ _ 0 _ 9 (0, 0) (heap_alloc2_new w _ _)
  have HT := hide hT
  clear hT
  generalize (w.alloc (.cells #[.pointer p] 22)).alloc (.cells #[.string name] 9) = w1 at *
  generalize hpf : w.heap.size = pf at *
  have hle : pf ≤ pf + 1 := Nat.le_succ _
  go_region_held (fun w' => w'.cell? ⟨pf, 0, none⟩ = some (.pointer p) ∧ w'.cell? ⟨pf + 1, 0, none⟩ = some (.string name)) (first | (with_reducible exact ⟨f0, f1⟩) | (simp only [World.cell?_drew]; with_reducible exact ⟨x0, x1⟩)) (first
    | (go_at_call 22; refine (name_any name _).mono ?_; rintro e w2 ⟨rfl, rfl⟩)
    | (go_at_call 36; refine (HRR.out _ pf (pf + 1) HT.out.drew x0 x1 (Nat.le_refl _) hle).mono ?_; rintro e w3 ⟨z, rfl, hz, ht⟩; have HZ := hide hz; have f0 := ht.cell (a := w1.drew) x0 (Nat.lt_irrefl _); have f1 := ht.cell (a := w1.drew) x1 (Nat.not_lt.2 hle); clear hz ht))
  all_goals go_wp2_with fail
  all_goals exact HZ.out
end Go.Proofs.Ytefjljdgdoklmaa

/-
  New: a file system without files.
-/
namespace Go.Proofs.Ytefjljdgdoklmaa
open Go.RowKit Go.Maps

set_option maxRecDepth 100000 in
set_option maxHeartbeats 1000000 in
theorem new_good (limit : Int) (w : World) (h1 : 0 ≤ limit) (h2 : limit ≤ 1073741824) :
    Calls Try.prog 8 #[.int .i64 limit] w fun e w' => e = .returned (.tuple #[.pointer (some ⟨w.heap.size + 2, 0, none⟩), .int .i64 0]) ∧
      w'.heap[w.heap.size + 2]? = some (.cells (fsCells limit (.map (some w.heap.size)) (.map (some (w.heap.size + 1))) (.slice none 0 0) 0 0 true 0 (-1) (-1) 0) 57 (0, 0)) ∧ Dir w' w.heap.size 0 (.map []) ∧ Dir w' (w.heap.size + 1) 0 (.map []) ∧ Below w.heap.size w w' := by
  have hmm := @run_makeMap Try.prog
  have g1 : ¬ limit < 0 := by omega
  have g2 : ¬ (1073741824 : Int) < limit := by omega
  have d0 := World.ownsMap_made w Try.prog 9 ptrR
  have d1 := World.ownsMap_made (w.alloc (.map #[] 0)) Try.prog 9 ptrR
  have e1 : (w.alloc (.map #[] 0)).heap.size = w.heap.size + 1 := by simp
  rw [e1] at d1
  have D0 := hide (World.ownsMap.alloc (World.ownsMap.alloc d0 (.map #[] 0)) (.cells (fsCells limit (.map (some w.heap.size)) (.map (some (w.heap.size + 1))) (.slice none 0 0) 0 0 true 0 (-1) (-1) 0) 57))
  have D1 := hide (World.ownsMap.alloc d1 (.cells (fsCells limit (.map (some w.heap.size)) (.map (some (w.heap.size + 1))) (.slice none 0 0) 0 0 true 0 (-1) (-1) 0) 57))
  have B0 : Hid (Below w.heap.size w (((w.alloc (.map #[] 0)).alloc (.map #[] 0)).alloc (.cells (fsCells limit (.map (some w.heap.size)) (.map (some (w.heap.size + 1))) (.slice none 0 0) 0 0 true 0 (-1) (-1) 0) 57))) := (((Below.refl _ _).alloc (Nat.le_refl _) _).alloc (by simp) _).alloc (by simp; omega) _
  have N0 : Hid ((((w.alloc (.map #[] 0)).alloc (.map #[] 0)).alloc (.cells (fsCells limit (.map (some w.heap.size)) (.map (some (w.heap.size + 1))) (.slice none 0 0) 0 0 true 0 (-1) (-1) 0) 57)).heap[w.heap.size + 2]? = some (.cells (fsCells limit (.map (some w.heap.size)) (.map (some (w.heap.size + 1))) (.slice none 0 0) 0 0 true 0 (-1) (-1) 0) 57 (0, 0))) := by
    have := heap_alloc_new ((w.alloc (.map #[] 0)).alloc (.map #[] 0)) (.cells (fsCells limit (.map (some w.heap.size)) (.map (some (w.heap.size + 1))) (.slice none 0 0) 0 0 true 0 (-1) (-1) 0) 57)
    rwa [show ((w.alloc (.map #[] 0)).alloc (.map #[] 0)).heap.size = w.heap.size + 2 by simp] at this
  clear d0 d1 e1
  go_enter Try.func8, Try.ntmps8
  go_wp2_with fail
  go_ret2
  exact ⟨rfl, N0.out, D0.out, D1.out, B0.out⟩
set_option maxRecDepth 100000 in
set_option maxHeartbeats 1000000 in
theorem new_bad (limit : Int) (w : World) (h : limit < 0 ∨ 1073741824 < limit) :
    Calls Try.prog 8 #[.int .i64 limit] w fun e w' => e = .returned (.tuple #[.pointer none, .int .i64 2]) ∧ w' = w := by
  by_cases h1 : limit < 0
  · go_enter Try.func8, Try.ntmps8
    go_wp2_with fail
    go_ret2
    exact ⟨rfl, rfl⟩
  · have g2 : (1073741824 : Int) < limit := by omega
    go_enter Try.func8, Try.ntmps8
    go_wp2_with fail
    go_ret2
    exact ⟨rfl, rfl⟩

set_option maxRecDepth 100000 in
set_option maxHeartbeats 1000000 in
/-- n modulo one more than most; 0 of an n below 0. -/
theorem within_any (n most : Int) (w : World) (h : 0 ≤ most) (h2 : most ≤ 1000000000000) (h3 : n ≤ 9223372036854775807) (h4 : -9223372036854775808 ≤ n) :
    Calls Try.prog 43 #[.int .i64 n, .int .i64 most] w fun e w' => e = .returned (.int .i64 (max n 0 % (most + 1))) ∧ w' = w := by
  have hne : most + 1 ≠ 0 := by omega
  have hne' : ((most + 1 : Int) == 0) = false := by rw [beq_eq_false_iff_ne]; omega
  go_enter Try.func43, Try.ntmps43
  go_wp2_with fail
  · go_ret
    exact ⟨by rw [show max n 0 = 0 by omega]; simp, rfl⟩
  · go_ret
    exact ⟨by rw [show max n 0 = n by omega]; rfl, rfl⟩
end Go.Proofs.Ytefjljdgdoklmaa
