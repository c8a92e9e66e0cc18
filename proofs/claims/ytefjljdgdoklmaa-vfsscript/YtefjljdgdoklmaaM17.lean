import Derived.Test.YtefjljdgdoklmaaM13
import Derived.Test.YtefjljdgdoklmaaM16
import Derived.StillTailTactics
/-
  The document's Turn.
-/
namespace Go.Proofs.Ytefjljdgdoklmaa
open Go.RowKit Go.Maps

theorem row_turned {w' : World} {q c k : Nat} {cs : Array Value} {bs : List (BitVec 8)} {b : BitVec 8} (hk : k < bs.length) (hroom : c ≤ cs.size) (hcs : ∀ j, j < (cellsOf bs).length → cs[j]? = (cellsOf bs)[j]?) (h : w'.heap[q]? = some (.cells (cs.setIfInBounds k (.int .u8 ((bs[k] ^^^ b).toNat : Int))) 5 (0, 0))) : RowB w' q c (turnAt bs k b) := by
  refine ⟨_, h, by simpa using hroom, fun j hj => ?_⟩
  have hj' : j < bs.length := by simpa [cellsOf, turnAt] using hj
  have := hcs j (by simpa [cellsOf] using hj')
  rw [Array.getElem?_setIfInBounds]
  by_cases ejk : k = j
  · subst ejk
    have hks : k < cs.size := by
      rw [List.getElem?_eq_getElem (by simpa [cellsOf] using hk)] at this
      exact (Array.getElem?_eq_some_iff.mp this).1
    simp [cellsOf, turnAt, hk, hks]
  · rw [if_neg ejk, this]
    simp [cellsOf, turnAt, ejk]

set_option maxRecDepth 100000 in
set_option maxHeartbeats 4000000 in
theorem rturn_rep (A : Nat → Prop) (q : Nat) (r : RDisk) (name : ByteArray) (at_ : Int) (b : BitVec 8) (w : World) (h : RRep A w q r) (hn : RNum r) (hnm : name.size ≤ maxLen) (R : Ending → World → Prop)
    (HN : fileOf r.now name = none → ∀ w', RRep A w' q r → Turns (fun _ => False) w w' → R (.returned (.int .i64 6)) w')
    (HA : ∀ g x w', fileOf r.now name = some g → r.files g = some x → (at_ < 0 ∨ (x.bytes.length : Int) ≤ at_) → RRep A w' q r → Turns (fun _ => False) w w' → R (.returned (.int .i64 2)) w')
    (HS : ∀ g x (k : Nat) w', fileOf r.now name = some g → r.files g = some x → at_ = (k : Int) → k < x.bytes.length → RRep (Grow A w) w' q (r.setF g ⟨turnAt x.bytes k b, x.synced⟩) → Turns A w w' → R (.returned (.int .i64 0)) w') :
    Calls Try.prog 65 #[.pointer (some ⟨q, 0, none⟩), .string name, .int .i64 at_, .int .u8 (b.toNat : Int)] w R := by
  obtain ⟨bs, ch, fv, h⟩ := h
  have H := hide h
  have HN1 := hide hn
  have HNN := hide HN
  have HAA := hide HA
  have HSS := hide HS
  clear h hn HN HA HS
  go_enter Try.func65, Try.ntmps65
  go_wp2_with fail
  refine (rnow_rep A q r w ⟨bs, ch, fv, H.out⟩ HN1.out).mono ?_
  rintro e w1 ⟨N, rfl, d1, b1⟩
  have hlk := d1.look81 name hnm
  have t1 : Turns (fun _ => False) w w1 := Turns.of_below b1 _
  have R1 := hide (H.out.quiet t1)
  have T1 := hide t1
  clear d1 b1 t1
  cases hfile : fileOf r.now name with
  | none =>
    rw [hfile] at hlk
    simp only [ptrOf] at hlk
    have HF := hide (HNN.out hfile w1 ⟨bs, ch, fv, R1.out⟩ T1.out)
    clear hfile
    go_wp2_with fail
    exact HF.out
  | some g =>
    rw [hfile] at hlk
    simp only [ptrOf] at hlk
    obtain ⟨x, hx⟩ := R1.out.look hfile
    have hF := R1.out.files.each g x hx
    obtain ⟨fa, fc, hfv⟩ := hF.own.slice
    have hc := hF.cell
    rw [hfv] at hc
    have c0 : w1.cell? ⟨g, 0, none⟩ = some (.slice fa x.bytes.length fc) := cell_of_row w1 g 0 _ 95 (0, 0) hc
    by_cases ho : at_ < 0 ∨ (x.bytes.length : Int) ≤ at_
    · have HF := hide (HAA.out g x w1 hfile hx ho ⟨bs, ch, fv, R1.out⟩ T1.out)
      clear hfile hx hF hfv hc
      generalize x.bytes.length = L at *
      rcases ho with ho | ho
      · go_wp2_with fail
        exact HF.out
      · have i1 : ¬ at_ < 0 := by omega
        go_wp2_with fail
        exact HF.out
    · obtain ⟨k, rfl⟩ : ∃ k : Nat, at_ = (k : Int) := ⟨at_.toNat, by omega⟩
      have hk : k < x.bytes.length := by omega
      have hxb := (HN1.out.bytes g x hx).1
      obtain ⟨j, hfa, hLc, hrow⟩ : ∃ k, fa = some ⟨k, 0, none⟩ ∧ x.bytes.length ≤ fc ∧ RowB w1 k fc x.bytes := by
        rcases hF.own with ⟨e, _⟩ | ⟨k, c, n', e, e2, e3, e4⟩
        · rw [e] at hk; simp at hk
        · rw [hfv] at e
          cases e
          exact ⟨k, rfl, e3, e4⟩
      subst hfa
      have hb : Below w1.heap.size w1 (w1.alloc (.cells #[] 5)) := (Below.refl _ _).alloc (Nat.le_refl _) _
      obtain ⟨g3, c3, w3, hr3, hg3, hrow3, hb3, hc3, _⟩ := append_bytes2 (w1.alloc (.cells #[] 5)) w1.heap.size (some ⟨w1.heap.size, 0, none⟩) 0 0 [] rfl (.slice (some ⟨j, 0, none⟩) x.bytes.length fc) x.bytes x.bytes.length rfl ((RowB.bytes (c' := fc) (n := x.bytes.length) hrow rfl).below hb) (by simp)
          (.inr ⟨_, rfl, Nat.le_refl _, Nat.le_refl _, #[], heap_alloc_new w1 _, Nat.le_refl _, fun k hk => by simp [cellsOf] at hk⟩) (by omega)
      rw [Nat.zero_add] at hr3 hc3
      rw [List.nil_append] at hrow3
      obtain ⟨cs, hq3, hroom, hcs⟩ := hrow3
      have t3 : Turns (fun _ => False) w1 w3 := Turns.of_below (hb.trans hb3) _
      have hg1 := lt_of_heap hc
      have hne : g ≠ g3 := by omega
      have h3 := t3.heap hc (fun x => x)
      have z3 : w3.frozen? ⟨g, 0, none⟩ = false := frozen_of_row w3 g 0 _ 95 h3
      have d3 : w3.cell? ⟨g, 0, none⟩ = some (.slice (some ⟨j, 0, none⟩) x.bytes.length fc) := cell_of_row w3 g 0 _ 95 (0, 0) h3
      have k4 := (Tick.refl h3).set 0 (.slice (some ⟨g3, 0, none⟩) x.bytes.length c3)
      obtain ⟨w4, hw4⟩ : ∃ w4, w4 = w3.setCell ⟨g, 0, none⟩ (.slice (some ⟨g3, 0, none⟩) x.bytes.length c3) := ⟨_, rfl⟩
      rw [← hw4] at k4
      have h4 : w4.heap[g3]? = some (.cells cs 5 (0, 0)) := (k4.2.2.1 g3 hne.symm).trans hq3
      have ck : w4.cell? ⟨g3, k, none⟩ = some (.int .u8 ((x.bytes[k]).toNat : Int)) := by
        rw [cell_of_row w4 g3 k _ 5 (0, 0) h4, hcs k (by simpa [cellsOf] using hk)]
        simp [cellsOf, hk]
      have zk : w4.frozen? ⟨g3, k, none⟩ = false := frozen_of_row w4 g3 k _ 5 h4
      have d4 : w4.cell? ⟨g, 0, none⟩ = some (.slice (some ⟨g3, 0, none⟩) x.bytes.length c3) := k4.cell 0
      have k5 := ((Tick.refl h4).drew).set k (.int .u8 ((x.bytes[k] ^^^ b).toNat : Int))
      have u5 : Turns (fun k => k = g) w1 (w4.drew.setCell ⟨g3, k, none⟩ (.int .u8 ((x.bytes[k] ^^^ b).toNat : Int))) :=
        ((t3.mono fun _ _ x => x.elim).trans (Turns.of_tick k4)).andThen (Turns.of_tick k5) (fun i hi e => by omega)
      have hR := R1.out.filed (x' := ⟨turnAt x.bytes k b, x.synced⟩) (v' := .slice (some ⟨g3, 0, none⟩) x.bytes.length c3) hx ((k5.2.2.1 g hne).trans k4.1) (.inr ⟨g3, c3, _, rfl, by simp [turnAt], hc3, row_turned hk hroom hcs k5.1⟩) u5 (fun i hi => by
        obtain ⟨_, _, e⟩ := hi
        cases e
        exact .inr hg3)
      have hag := hF.ag
      have HF := hide (HSS.out g x k _ hfile hx rfl hk ⟨bs, ch, _, hR.mono fun i _ => grow_of T1.out.size i⟩ ((T1.out.mono fun _ _ x => x.elim).trans (u5.mono fun i _ e => by rw [e]; exact hag)))
      have hq := hr3 28
      have c0a : (w1.alloc (.cells #[] 5)).cell? ⟨g, 0, none⟩ = some (.slice (some ⟨j, 0, none⟩) x.bytes.length fc) := (Turns.of_below hb (fun _ => False)).cell c0 (fun x => x)
      have hxx := xor_b8 x.bytes[k] b
      have HW := hide hw4
      have i1 : ¬ (k : Int) < 0 := by omega
      clear hw4 k5 u5 hR hag hF hfile hx hcs hroom hq3 h4 h3 hr3 hb hrow hb3 k4 t3 hc hfv ho hg1
      generalize x.bytes[k] ^^^ b = y at *
      generalize x.bytes[k] = z at *
      generalize x.bytes.length = L at *
      go_wp2_with (at_builtin; refine wpList_append_run rfl _ _ 28 rfl _ _ rfl rfl _ _ hq ?_)
      rw [← HW.out]
      go_still_tail 15, (by kernel_rfl)
      repeat still_step
      have zk' : ({ w4 with drawn := w4.drawn + 1 } : World).frozen? ⟨g3, k, none⟩ = false := zk
      have ck' : ({ w4 with drawn := w4.drawn + 1 } : World).cell? ⟨g3, k, none⟩ = some (.int .u8 (z.toNat : Int)) := ck
      go_wp2_with fail
      exact HF.out
end Go.Proofs.Ytefjljdgdoklmaa

/-
  What the document's Used works with: rows of pointers, the files that a file system's directories tell of.
-/
namespace Go.Proofs.Ytefjljdgdoklmaa
open Go.RowKit Go.Maps

theorem t92_size : Try.t92.size = 1 := by kernel_rfl
theorem t92_bytes : Try.t92.bytes = 8 := by kernel_rfl
theorem t92_info : Try.prog.info? 92 = some Try.t92 := by kernel_rfl
theorem t92_zero : Try.t92.zero = some (.pointer none) := by kernel_rfl

def ptrCells (ls : List Nat) : List Value := ls.map fun k => .pointer (some ⟨k, 0, none⟩)
/-- A row of pointers of one's own, behind B. -/
def PtrRow (w : World) (B : Nat) (v : Value) (ls : List Nat) : Prop :=
  (ls = [] ∧ v = .slice none 0 0) ∨ ∃ g c n : Nat, v = .slice (some ⟨g, 0, none⟩) n c ∧ n = ls.length ∧ n ≤ c ∧ B ≤ g ∧ RowC w g 92 c (ptrCells ls)
theorem PtrRow.row {w : World} {B : Nat} {v : Value} {ls : List Nat} (h : PtrRow w B v ls) {k : Nat} (hk : inRow v k) : B ≤ k ∧ ∃ cs, w.heap[k]? = some (.cells cs 92 (0, 0)) := by
  obtain ⟨n', c', e⟩ := hk
  rcases h with ⟨_, rfl⟩ | ⟨g, c, n, rfl, _, _, hB, cs, h1, _⟩
  · cases e
  · cases e; exact ⟨hB, cs, h1⟩
theorem PtrRow.keep {S : Nat → Prop} {w w' : World} {B : Nat} {v : Value} {ls : List Nat} (h : PtrRow w B v ls) (t : Turns S w w') (hn : ∀ k, inRow v k → ¬ S k) : PtrRow w' B v ls := by
  rcases h with h | ⟨g, c, n, h1, h2, h3, h4, cs, h5, h6, h7⟩
  · exact .inl h
  · exact .inr ⟨g, c, n, h1, h2, h3, h4, cs, t.heap h5 (hn g ⟨n, c, h1⟩), h6, h7⟩

theorem append_ptr (w : World) (B : Nat) (v : Value) (ls : List Nat) (h : PtrRow w B v ls) (hB : B ≤ w.heap.size) (hlen : ls.length ≤ 1000000000) (x : Nat) (a : Addr) (c : Nat) (ha : w.cell? a = some (.pointer (some ⟨x, 0, none⟩))) :
    ∃ (g' n' c' : Nat) (w' : World), (∀ ty, (Builtin.append_ #[100, 100] ty #[v, .slice (some a) 1 c]).run Try.prog w = .ok (.slice (some ⟨g', 0, none⟩) n' c') w') ∧ PtrRow w' B (.slice (some ⟨g', 0, none⟩) n' c') (ls ++ [x]) ∧ Turns (inRow v) w w' ∧ Below B w w' := by
  have hsrc : Src Try.prog Try.t92.size 100 (.slice (some a) 1 c) 1 [.pointer (some ⟨x, 0, none⟩)] w := Src.ofSlice w Try.underlying100 a 1 c _ (by rw [t92_size]; rfl) (fun j u hu => by
    cases j with
    | zero => cases hu; exact ha
    | succ j => cases hu) (fun u hu => by
    simp only [List.mem_cons, List.not_mem_nil, or_false] at hu
    rw [hu]; rfl)
  obtain ⟨base, sLen, sCap, rfl, hsl, hbase⟩ : ∃ (base : Option Addr) (sLen sCap : Nat), v = .slice base sLen sCap ∧ sLen = ls.length ∧ ((base = none ∧ sLen = 0 ∧ sCap = 0 ∧ 0 < 1) ∨ ∃ g, base = some ⟨g, 0, none⟩ ∧ B ≤ g ∧ sLen ≤ sCap ∧ RowC w g 92 (sCap * Try.t92.size) (ptrCells ls)) := by
    rcases h with ⟨rfl, rfl⟩ | ⟨g, c, n, rfl, rfl, h3, h4, h5⟩
    · exact ⟨none, 0, 0, rfl, rfl, .inl ⟨rfl, rfl, rfl, by omega⟩⟩
    · exact ⟨_, _, _, rfl, rfl, .inr ⟨g, rfl, h4, h3, by rw [t92_size, Nat.mul_one]; exact h5⟩⟩
  obtain ⟨g, cp, w', hr, hg, hrow, hb, hcp, _, _, hkeep⟩ := append_gen2 (P := Try.prog) w B 100 92 Try.t92 _ Try.underlying100 t92_info t92_zero rfl base sLen sCap (ptrCells ls) (by rw [t92_size, hsl]; simp [ptrCells]) _ 1 _ hsrc hB hbase (by rw [t92_bytes]; omega) (by omega)
  refine ⟨g, _, cp, w', hr, .inr ⟨g, cp, _, rfl, by simp [hsl], hcp, hg, ?_⟩, ⟨hb.os, hb.tape, hb.output, hb.size, fun k hk hn => hkeep k hk fun e => hn ⟨sLen, sCap, by rw [e]⟩⟩, hb⟩
  rw [t92_size, Nat.mul_one] at hrow
  rw [show ptrCells (ls ++ [x]) = ptrCells ls ++ [.pointer (some ⟨x, 0, none⟩)] by simp [ptrCells]]
  exact hrow

theorem ranges_keep {S : Nat → Prop} {w w' : World} {b r n : Nat} {D : DataW Unit} {left : Lit → Bool} {cnt : Nat} (h : w.ranges Try.prog 9 ptrR b r n D left cnt) (t : Turns S w w') (hb : ¬ S b) (hr : ¬ S r) : w'.ranges Try.prog 9 ptrR b r n D left cnt := by
  obtain ⟨es, clock, since, seen, c0, h1, F, hs, hD, h2, rest⟩ := h
  exact ⟨es, clock, since, seen, c0, t.heap h1 hb, F, hs, hD, t.heap h2 hr, rest⟩
theorem ranges_map {w : World} {b r n : Nat} {D : DataW Unit} {left : Lit → Bool} {cnt : Nat} (h : w.ranges Try.prog 9 ptrR b r n D left cnt) : (∀ cs t a, w.heap[b]? ≠ some (.cells cs t a)) ∧ ∀ cs t a, w.heap[r]? ≠ some (.cells cs t a) := by
  obtain ⟨es, clock, since, seen, c0, h1, F, hs, hD, h2, rest⟩ := h
  exact ⟨fun cs t a e => (by rw [h1] at e; cases e), fun cs t a e => (by rw [h2] at e; cases e)⟩

/-- The bytes of those files together. -/
def total (F : Nat → Option Fil) (ls : List Nat) : Nat := (ls.map fun g => match F g with | some x => x.bytes.length | none => 0).sum
theorem total_snoc (F : Nat → Option Fil) (ls : List Nat) (g : Nat) (x : Fil) (hx : F g = some x) : total F (ls ++ [g]) = total F ls + x.bytes.length := by
  simp [total, hx]
/-- The files that the directories before the i-th tell of. -/
def RDisk.tells (r : RDisk) (i : Nat) (g : Nat) : Prop := ∃ j, j < i ∧ ∃ s, fileOf (r.dir j) s = some g

/-- An entry that a range over a directory has shown. -/
theorem entry_file {D : DataW Unit} (hf : Full D) {s : ByteArray} {c : Option Nat} (hat : ∀ zd, D.atKey (key s) zd = ptrD c) : ∃ g, c = some g ∧ fileOf D s = some g := by
  cases c with
  | some g => exact ⟨g, rfl, fileOf_lit _ _ _ (hat _)⟩
  | none =>
    obtain ⟨es, rfl, h⟩ := hf
    have h1 := hat (.lit (.bool true))
    simp only [DataW.atKey, ptrD] at h1
    cases e : es.find? (fun p => p.1.sameKey (key s)) with
    | none => rw [e] at h1; cases h1
    | some q =>
      rw [e] at h1
      obtain ⟨_, g, rfl⟩ := h q (List.mem_of_find?_eq_some e)
      cases h1
theorem fileOf_has {D : DataW Unit} {s : ByteArray} {g : Nat} (h : fileOf D s = some g) : has D (key s) = true := by
  cases e : has D (key s) with
  | true => rfl
  | false =>
    unfold fileOf at h
    rw [atKey_of_not_has e] at h
    cases h
end Go.Proofs.Ytefjljdgdoklmaa

/-
  Rows of texts of one's own, and one text that is put where it belongs.
-/
namespace Go.Proofs.Ytefjljdgdoklmaa
open Go.RowKit Go.Maps

theorem t9_size : Try.t9.size = 1 := by kernel_rfl
theorem t9_bytes : Try.t9.bytes = 16 := by kernel_rfl
theorem t9_info : Try.prog.info? 9 = some Try.t9 := by kernel_rfl
theorem t9_zero : Try.t9.zero = some (.string ⟨#[]⟩) := by kernel_rfl

/-- One text put before the first that is not smaller. -/
theorem ins_sorted (ks : List (List UInt8)) (s : List UInt8) (i : Nat) (l : List (List UInt8)) (hl : l = ks.mergeSort leB) (h1 : ∀ j x, j < i → l[j]? = some x → x < s) (h2 : ∀ x, l[i]? = some x → ¬ x < s) :
    l.take i ++ s :: l.drop i = (ks ++ [s]).mergeSort leB := by
  have tr : ∀ a b c : List UInt8, leB a b = true → leB b c = true → leB a c = true := fun a b c h1 h2 => by simp only [leB, decide_eq_true_eq] at *; exact List.le_trans h1 h2
  have tot : ∀ a b : List UInt8, (leB a b || leB b a) = true := fun a b => by simp only [leB, Bool.or_eq_true, decide_eq_true_eq]; exact List.le_total a b
  have hp : l.Pairwise (fun a b => leB a b = true) := by rw [hl]; exact List.pairwise_mergeSort tr tot ks
  have hpm : l.Perm ks := by rw [hl]; exact List.mergeSort_perm ks leB
  have hsplit := hp
  rw [← List.take_append_drop i l, List.pairwise_append] at hsplit
  obtain ⟨p1, p2, p3⟩ := hsplit
  have hd : ∀ x, x ∈ l.drop i → leB s x = true := by
    intro x hx
    cases e : l.drop i with
    | nil => rw [e] at hx; cases hx
    | cons y t =>
      have hy : l[i]? = some y := by
        have := List.getElem?_drop (xs := l) (i := i) (j := 0)
        rw [e] at this
        simpa using this.symm
      have hsy : leB s y = true := by
        simp only [leB, decide_eq_true_eq]
        exact List.not_lt.1 (h2 y hy)
      rw [e] at hx p2
      rcases List.mem_cons.1 hx with rfl | hx
      · exact hsy
      · exact tr _ _ _ hsy ((List.pairwise_cons.1 p2).1 x hx)
  have ht : ∀ x, x ∈ l.take i → leB x s = true := by
    intro x hx
    obtain ⟨j, hj, e⟩ := List.mem_iff_getElem.1 hx
    have hji : j < i := by
      rw [List.length_take] at hj; omega
    have hx' : l[j]? = some x := by
      rw [← e, List.getElem_take]
      exact List.getElem?_eq_getElem _
    simp only [leB, decide_eq_true_eq]
    exact List.le_of_lt (h1 j x hji hx')
  have hsrt : (l.take i ++ s :: l.drop i).Pairwise (fun a b => leB a b = true) := by
    rw [List.pairwise_append]
    refine ⟨p1, List.pairwise_cons.2 ⟨hd, p2⟩, fun a ha b hb => ?_⟩
    rcases List.mem_cons.1 hb with rfl | hb
    · exact ht a ha
    · exact p3 a ha b hb
  have hperm : (l.take i ++ s :: l.drop i).Perm (ks ++ [s]) := by
    refine List.perm_middle.trans ?_
    rw [List.take_append_drop]
    exact (hpm.cons s).trans (List.perm_append_singleton s ks).symm
  rw [← mergeSort_of_perm hperm]
  exact (List.mergeSort_of_pairwise hsrt).symm

def strCells (ss : List (List UInt8)) : List Value := ss.map encStr
/-- Append of texts. -/
theorem append_strs2 (w : World) (B : Nat) (base : Option Addr) (sLen sCap : Nat) (ss : List (List UInt8)) (hl : sLen = ss.length) (x : Value) (news : List (List UInt8)) (n : Nat) (hn : n = news.length) (hx : Src Try.prog Try.t9.size 30 x n (strCells news) w) (hB : B ≤ w.heap.size)
    (hbase : ∃ g, base = some ⟨g, 0, none⟩ ∧ B ≤ g ∧ sLen ≤ sCap ∧ RowC w g 9 sCap (strCells ss)) (hsm : sLen + n ≤ 1000000000) :
    ∃ g c w', (∀ ty, (Builtin.append_ #[30, 30] ty #[.slice base sLen sCap, x]).run Try.prog w = .ok (.slice (some ⟨g, 0, none⟩) (sLen + n) c) w') ∧ B ≤ g ∧ RowC w' g 9 c (strCells (ss ++ news)) ∧ Below B w w' ∧ sLen + n ≤ c ∧ Turns (fun k => base = some ⟨k, 0, none⟩) w w' ∧ (base = some ⟨g, 0, none⟩ ∨ w.heap.size ≤ g) := by
  obtain ⟨g, c, w', hr, hg, hrow, hb, hc, hin, hout, hk⟩ := append_gen2 (P := Try.prog) w B 30 9 Try.t9 _ Try.underlying30 t9_info t9_zero rfl base sLen sCap (strCells ss) (by rw [t9_size, hl]; simp [strCells]) x n (strCells news) hx hB (.inr (by
    obtain ⟨g, h1, h2, h3, h4⟩ := hbase
    exact ⟨g, h1, h2, h3, by rw [t9_size, Nat.mul_one]; exact h4⟩)) (by rw [t9_bytes]; omega) (by omega)
  rw [t9_size, Nat.mul_one] at hrow
  refine ⟨g, c, w', hr, hg, by rw [show strCells (ss ++ news) = strCells ss ++ strCells news by simp [strCells]]; exact hrow, hb, hc, ⟨hb.os, hb.tape, hb.output, hb.size, fun k hk' hn' => hk k hk' hn'⟩, ?_⟩
  rcases Nat.lt_or_ge sCap (sLen + n) with h | h
  · exact .inr (by rw [hout h]; exact Nat.le_refl _)
  · exact .inl (hin h).1
end Go.Proofs.Ytefjljdgdoklmaa

/-
  One text put into a row of texts: what the three appends answer, in each order.
-/
namespace Go.Proofs.Ytefjljdgdoklmaa
open Go.RowKit Go.Maps

/-- A row of texts of one's own, behind B. -/
def SRow (w : World) (B : Nat) (v : Value) (ss : List (List UInt8)) : Prop :=
  (ss = [] ∧ v = .slice none 0 0) ∨ ∃ g c n : Nat, v = .slice (some ⟨g, 0, none⟩) n c ∧ n = ss.length ∧ n ≤ c ∧ B ≤ g ∧ RowC w g 9 c (strCells ss)
theorem SRow.row {w : World} {B : Nat} {v : Value} {ss : List (List UInt8)} (h : SRow w B v ss) {k : Nat} (hk : inRow v k) : B ≤ k ∧ ∃ cs, w.heap[k]? = some (.cells cs 9 (0, 0)) := by
  obtain ⟨n', c', e⟩ := hk
  rcases h with ⟨_, rfl⟩ | ⟨g, c, n, rfl, _, _, hB, cs, h1, _⟩
  · cases e
  · cases e; exact ⟨hB, cs, h1⟩
theorem RowC.turn {S : Nat → Prop} {w w' : World} {g e room : Nat} {cells : List Value} (h : RowC w g e room cells) (t : Turns S w w') (hn : ¬ S g) : RowC w' g e room cells := by
  obtain ⟨cs, h1, h2, h3⟩ := h
  exact ⟨cs, t.heap h1 hn, h2, h3⟩
theorem SRow.keep {S : Nat → Prop} {w w' : World} {B : Nat} {v : Value} {ss : List (List UInt8)} (h : SRow w B v ss) (t : Turns S w w') (hn : ∀ k, inRow v k → ¬ S k) : SRow w' B v ss := by
  rcases h with h | ⟨g, c, n, h1, h2, h3, h4, h5⟩
  · exact .inl h
  · exact .inr ⟨g, c, n, h1, h2, h3, h4, h5.turn t (hn g ⟨n, c, h1⟩)⟩

abbrev SrcS (w : World) (x : Value) (n : Nat) (news : List (List UInt8)) : Prop := Src Try.prog Try.t9.size 30 x n (strCells news) w
theorem src_part {V : World} {g c : Nat} {ss : List (List UInt8)} (h : RowC V g 9 c (strCells ss)) (i m c' : Nat) (hm : i + m ≤ ss.length) : SrcS V (.slice (some ⟨g, i, none⟩) m c') m ((ss.drop i).take m) := by
  obtain ⟨cs, h1, _, h3⟩ := h
  refine Src.ofSlice V Try.underlying30 _ m c' _ (by rw [t9_size]; simp [strCells]; omega) (fun j u hu => ?_) (fun u hu => ?_)
  · have hj : j < m := by
      have := (List.getElem?_eq_some_iff.1 hu).1
      simp [strCells] at this
      omega
    rw [Go.WideShapes.add_plain, cell_of_row V g _ cs 9 (0, 0) h1, h3 _ (by simp [strCells]; omega), ← hu]
    simp [strCells, hj]
  · obtain ⟨b, _, rfl⟩ := List.mem_map.1 hu
    rfl
theorem src_none (V : World) (a : Addr) (c : Nat) : SrcS V (.slice (some a) 0 c) 0 [] :=
  Src.ofSlice V Try.underlying30 a 0 c [] (by simp) (fun j u hu => by cases hu) (fun u hu => by cases hu)
theorem src_one {V : World} {sb : Nat} {s : List UInt8} (h : V.cell? ⟨sb, 0, none⟩ = some (encStr s)) (c : Nat) : SrcS V (.slice (some ⟨sb, 0, none⟩) 1 c) 1 [s] :=
  Src.ofSlice V Try.underlying30 _ 1 c _ (by rw [t9_size]; rfl) (fun j u hu => by
    cases j with
    | zero => cases hu; exact h
    | succ j => cases hu) (fun u hu => by
    simp [strCells] at hu
    rw [hu]; rfl)

section
variable {B : Nat} {W : World} {l : List (List UInt8)} {s : List UInt8} {i : Nat} {x1 x3 : Value}
/-- What the last two appends answer. -/
def Rest (B : Nat) (W V : World) (l : List (List UInt8)) (s : List UInt8) (i g1 c1 sb : Nat) (x3 : Value) : Prop :=
  ∃ g2 c2 Wb g3 c3 Wc, (∀ ty, (Builtin.append_ #[30, 30] ty #[.slice (some ⟨g1, 0, none⟩) i c1, .slice (some ⟨sb, 0, none⟩) 1 1]).run Try.prog V = .ok (.slice (some ⟨g2, 0, none⟩) (i + 1) c2) Wb) ∧
    (∀ ty, (Builtin.append_ #[30, 30] ty #[.slice (some ⟨g2, 0, none⟩) (i + 1) c2, x3]).run Try.prog Wb = .ok (.slice (some ⟨g3, 0, none⟩) (i + 1 + (l.length - i)) c3) Wc) ∧
    SRow Wc B (.slice (some ⟨g3, 0, none⟩) (i + 1 + (l.length - i)) c3) (l.take i ++ s :: l.drop i) ∧ Turns (fun k => B ≤ k) W Wc
theorem ins_rest (V : World) (g1 c1 sb : Nat) (hi : i ≤ l.length) (hL : l.length ≤ 1000000) (hBW : B ≤ W.heap.size) (hV : Turns (fun k => B ≤ k) W V) (hg1 : B ≤ g1) (hc1 : i ≤ c1) (row : RowC V g1 9 c1 (strCells (l.take i))) (hs : V.cell? ⟨sb, 0, none⟩ = some (encStr s))
    (hx3 : ∀ V, Turns (fun k => B ≤ k) W V → SrcS V x3 (l.length - i) (l.drop i)) : Rest B W V l s i g1 c1 sb x3 := by
  have hl1 : i = (l.take i).length := by rw [List.length_take]; omega
  obtain ⟨g2, c2, Wb, q2, hg2, row2, b2, hc2, t2, _⟩ := append_strs2 V B (some ⟨g1, 0, none⟩) i c1 (l.take i) hl1 _ [s] 1 rfl (src_one hs 1) (Nat.le_trans hBW hV.size) ⟨g1, rfl, hg1, hc1, row⟩ (by omega)
  have tb : Turns (fun k => B ≤ k) W Wb := hV.trans (t2.mono fun k _ e => by cases e; exact hg1)
  obtain ⟨g3, c3, Wc, q3, hg3, row3, b3, hc3, t3, _⟩ := append_strs2 Wb B (some ⟨g2, 0, none⟩) (i + 1) c2 (l.take i ++ [s]) (by rw [List.length_append, ← hl1]; rfl) x3 (l.drop i) (l.length - i) (by rw [List.length_drop]) (hx3 Wb tb) (Nat.le_trans hBW tb.size) ⟨g2, rfl, hg2, hc2, row2⟩ (by omega)
  refine ⟨g2, c2, Wb, g3, c3, Wc, q2, q3, .inr ⟨g3, c3, _, rfl, ?_, hc3, hg3, ?_⟩, tb.trans (t3.mono fun k _ e => by cases e; exact hg2)⟩
  · simp; omega
  · rw [show l.take i ++ s :: l.drop i = l.take i ++ [s] ++ l.drop i by simp]
    exact row3
/-- What the first append answers, and the other two behind it. -/
theorem ins_first (V : World) (e : Nat) (hi : i ≤ l.length) (hL : l.length ≤ 1000000) (hBW : B ≤ W.heap.size) (hV : Turns (fun k => B ≤ k) W V) (hge : B ≤ e) (he : V.heap[e]? = some (.cells #[] 9 (0, 0))) (hx1 : SrcS V x1 i (l.take i)) :
    ∃ g1 c1 Wa, (∀ ty, (Builtin.append_ #[30, 30] ty #[.slice (some ⟨e, 0, none⟩) 0 0, x1]).run Try.prog V = .ok (.slice (some ⟨g1, 0, none⟩) i c1) Wa) ∧ B ≤ g1 ∧ i ≤ c1 ∧ RowC Wa g1 9 c1 (strCells (l.take i)) ∧ Turns (fun k => B ≤ k) W Wa ∧ Turns (fun k => k = e) V Wa := by
  obtain ⟨g1, c1, Wa, q1, hg1, row1, b1, hc1, t1, _⟩ := append_strs2 V B (some ⟨e, 0, none⟩) 0 0 [] rfl x1 (l.take i) i (by rw [List.length_take]; omega) hx1 (Nat.le_trans hBW hV.size) ⟨e, rfl, hge, Nat.le_refl _, #[], he, Nat.le_refl _, fun k hk => by simp [strCells] at hk⟩ (by omega)
  rw [Nat.zero_add] at q1 hc1
  exact ⟨g1, c1, Wa, q1, hg1, hc1, row1, hV.trans (t1.mono fun k _ e => by cases e; exact hge), t1.mono fun k _ e => by cases e; rfl⟩
/-- The three orders. -/
def Orders (B : Nat) (W : World) (l : List (List UInt8)) (s : List UInt8) (i : Nat) (x1 x3 : Value) (E S : Obj) : Prop :=
  (∃ g1 c1 Wa, (∀ ty, (Builtin.append_ #[30, 30] ty #[.slice (some ⟨W.heap.size, 0, none⟩) 0 0, x1]).run Try.prog (W.alloc E) = .ok (.slice (some ⟨g1, 0, none⟩) i c1) Wa) ∧ Rest B W (Wa.alloc S) l s i g1 c1 Wa.heap.size x3) ∧
  (∃ g1 c1 Wa, (∀ ty, (Builtin.append_ #[30, 30] ty #[.slice (some ⟨W.heap.size, 0, none⟩) 0 0, x1]).run Try.prog ((W.alloc E).alloc S) = .ok (.slice (some ⟨g1, 0, none⟩) i c1) Wa) ∧ Rest B W Wa l s i g1 c1 (W.heap.size + 1) x3) ∧
  (∃ g1 c1 Wa, (∀ ty, (Builtin.append_ #[30, 30] ty #[.slice (some ⟨W.heap.size + 1, 0, none⟩) 0 0, x1]).run Try.prog ((W.alloc S).alloc E) = .ok (.slice (some ⟨g1, 0, none⟩) i c1) Wa) ∧ Rest B W Wa l s i g1 c1 W.heap.size x3)
theorem ins_orders (hi : i ≤ l.length) (hL : l.length ≤ 1000000) (hBW : B ≤ W.heap.size) (hx1 : ∀ V, Turns (fun k => B ≤ k) W V → SrcS V x1 i (l.take i)) (hx3 : ∀ V, Turns (fun k => B ≤ k) W V → SrcS V x3 (l.length - i) (l.drop i)) :
    Orders B W l s i x1 x3 (.cells #[] 9) (.cells #[encStr s] 9) := by
  have nw := fun o => heap_alloc_new W o
  have t0 : ∀ o, Turns (fun k => B ≤ k) W (W.alloc o) := fun o => (Turns.refl _ W).alloc _
  refine ⟨?_, ?_, ?_⟩
  · obtain ⟨g1, c1, Wa, q1, hg1, hc1, row, ta, _⟩ := ins_first (W := W) _ W.heap.size hi hL hBW (t0 (.cells #[] 9)) hBW (nw _) (hx1 _ (t0 _))
    refine ⟨g1, c1, Wa, q1, ins_rest _ g1 c1 _ hi hL hBW (ta.alloc _) hg1 hc1 (row.turn ((Turns.refl (fun _ => False) Wa).alloc _) (fun x => x)) (cell_of_row _ _ 0 _ 9 (0, 0) (heap_alloc_new Wa _)) hx3⟩
  · have t1 : Turns (fun k => B ≤ k) W ((W.alloc (.cells #[] 9)).alloc (.cells #[encStr s] 9)) := (t0 _).alloc _
    have e1 : (W.alloc (.cells #[] 9)).heap.size = W.heap.size + 1 := by simp
    obtain ⟨g1, c1, Wa, q1, hg1, hc1, row, ta, tb⟩ := ins_first (W := W) _ W.heap.size hi hL hBW t1 hBW ((heap_alloc_old _ _ (by simp)).trans (nw _)) (hx1 _ t1)
    have hs := cell_of_row _ _ 0 _ 9 (0, 0) (heap_alloc_new (W.alloc (.cells #[] 9)) (.cells #[encStr s] 9))
    rw [e1] at hs
    exact ⟨g1, c1, Wa, q1, ins_rest _ g1 c1 _ hi hL hBW ta hg1 hc1 row (tb.cell hs (by show ¬ W.heap.size + 1 = W.heap.size; omega)) hx3⟩
  · have t1 : Turns (fun k => B ≤ k) W ((W.alloc (.cells #[encStr s] 9)).alloc (.cells #[] 9)) := (t0 _).alloc _
    have e1 : (W.alloc (.cells #[encStr s] 9)).heap.size = W.heap.size + 1 := by simp
    have hn := heap_alloc_new (W.alloc (.cells #[encStr s] 9)) (.cells #[] 9)
    rw [e1] at hn
    obtain ⟨g1, c1, Wa, q1, hg1, hc1, row, ta, tb⟩ := ins_first (W := W) _ (W.heap.size + 1) hi hL hBW t1 (by omega) hn (hx1 _ t1)
    have hs := cell_of_row _ W.heap.size 0 _ 9 (0, 0) ((heap_alloc_old (W.alloc (.cells #[encStr s] 9)) (.cells #[] 9) (by simp)).trans (nw (.cells #[encStr s] 9)))
    exact ⟨g1, c1, Wa, q1, ins_rest _ g1 c1 _ hi hL hBW ta hg1 hc1 row (tb.cell hs (by show ¬ W.heap.size = W.heap.size + 1; omega)) hx3⟩
end
end Go.Proofs.Ytefjljdgdoklmaa
