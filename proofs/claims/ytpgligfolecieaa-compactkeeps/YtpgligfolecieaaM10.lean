import Derived.Test.YtpgligfolecieaaM09
/-
  The heads of a merge, behind a pointer.
-/
namespace Go.Proofs.Ytpgligfolecieaa
open Go.RowKit
set_option maxRecDepth 100000
set_option maxHeartbeats 4000000
/-- A block that bytes of an entry lie in. -/
def Tow.lies (t : Tow) (q : Nat) : Prop := (∃ a : Addr, t.ka = some a ∧ a.block = q ∧ t.e.key ≠ []) ∨ ∃ a : Addr, t.va = some a ∧ a.block = q ∧ t.e.val ≠ []
/-- A block that a head's entries lie in. -/
def Hd.uses (h : Hd) (q : Nat) : Prop := h.b = q ∨ ∃ t, t ∈ h.R ∧ t.lies q
theorem bytes_keep' {S : Nat → Prop} {w w' : World} {a : Option Addr} {n c : Nat} {bs : List (BitVec 8)} (h : Bytes w (.slice a n c) bs) (tt : Turns S w w') (hS : ∀ x : Addr, a = some x → bs ≠ [] → ¬ S x.block) : Bytes w' (.slice a n c) bs := by
  have hl := h.len
  by_cases e : bs = []
  · subst e
    subst hl
    exact Bytes.nothing a c
  · exact bytes_keep h tt fun x hx => hS x hx e
theorem HdOk.keep {S : Nat → Prop} {w w' : World} {h : Hd} (k : HdOk w h) (t : Turns S w w') (hn : ∀ q, h.uses q → ¬ S q) : HdOk w' h := by
  refine ⟨k.ne, fun i x hx => ?_, k.cap, k.size, k.no⟩
  obtain ⟨⟨b, off, e1, hc⟩, h1, h2⟩ := k.ents i x hx
  have hm := List.mem_of_getElem? hx
  refine ⟨⟨b, off, e1, fun j u hu => t.cell (hc j u hu) ?_⟩, bytes_keep' h1 t fun a e hb => hn _ (.inr ⟨x, hm, .inl ⟨a, e, rfl, hb⟩⟩), bytes_keep' h2 t fun a e hb => hn _ (.inr ⟨x, hm, .inr ⟨a, e, rfl, hb⟩⟩)⟩
  cases e1
  exact hn _ (.inl rfl)
theorem bytes_lt {w : World} {a : Addr} {n c : Nat} {bs : List (BitVec 8)} (h : Bytes w (.slice (some a) n c) bs) (hb : bs ≠ []) : a.block < w.heap.size := by
  obtain ⟨a', c', e, hc⟩ := h
  cases e
  obtain ⟨b, off, e1, hcell⟩ := hc 0 (List.length_pos_iff.2 hb)
  cases e1
  exact block_lt_of_cell hcell
theorem HdOk.lt {w : World} {h : Hd} (k : HdOk w h) {q : Nat} (hq : h.uses q) : q < w.heap.size := by
  rcases hq with e | ⟨t, ht, hl⟩
  · cases e2 : h.R with
    | nil => exact absurd e2 k.ne
    | cons y r =>
      obtain ⟨⟨b, off, e1, hc⟩, _⟩ := k.ents 0 y (by rw [e2]; rfl)
      cases e1
      rw [← e]
      exact block_lt_of_cell (hc 0 _ rfl)
  · obtain ⟨i, hi⟩ := List.getElem?_of_mem ht
    obtain ⟨_, h1, h2⟩ := k.ents i t hi
    rcases hl with ⟨a, e, rfl, hb⟩ | ⟨a, e, rfl, hb⟩
    · unfold Tow.kv at h1
      rw [e] at h1
      exact bytes_lt h1 hb
    · unfold Tow.vv at h2
      rw [e] at h2
      exact bytes_lt h2 hb
/-- The heads behind the cell o of the block p: S are the blocks that may turn. -/
structure HB (S : Nat → Prop) (w : World) (p o t : Nat) (cs : Array Value) (v : Value) (L : List Hd) : Prop where
  blk : w.heap[p]? = some (.cells (cs.setIfInBounds o v) t (0, 0))
  at' : o < cs.size
  sp : S p
  up : ∀ k, w.heap.size ≤ k → S k
  row : (v = .slice none 0 0 ∧ L = []) ∨ ∃ g c, v = .slice (some ⟨g, 0, none⟩) L.length c ∧ HRow w g c L ∧ g ≠ p ∧ S g
  each : ∀ x, x ∈ L → HdOk w x ∧ ∀ q, x.uses q → ¬ S q
  len : L.length ≤ 1000000
theorem HB.keep {S S' : Nat → Prop} {w w' : World} {p o t : Nat} {cs : Array Value} {v : Value} {L : List Hd} (h : HB S w p o t cs v L) (tt : Turns S' w w') (h1 : ¬ S' p) (h2 : ∀ k, inRow v k → ¬ S' k) (h3 : ∀ k, S' k → S k) : HB S w' p o t cs v L where
  blk := tt.heap h.blk h1
  at' := h.at'
  sp := h.sp
  up := fun k hk => h.up k (Nat.le_trans tt.size hk)
  row := by
    rcases h.row with e | ⟨g, c, e, hr, hg, hs⟩
    · exact .inl e
    · exact .inr ⟨g, c, e, hr.keep tt (h2 g ⟨_, _, e⟩), hg, hs⟩
  each := fun x hx => ⟨(h.each x hx).1.keep tt fun q hq hs => (h.each x hx).2 q hq (h3 q hs), (h.each x hx).2⟩
  len := h.len
theorem HB.quiet {S : Nat → Prop} {w w' : World} {p o t : Nat} {cs : Array Value} {v : Value} {L : List Hd} (h : HB S w p o t cs v L) (tt : Turns (fun _ => False) w w') : HB S w' p o t cs v L := h.keep tt (fun x => x) (fun _ _ x => x) (fun _ x => x.elim)
theorem HB.cell {S : Nat → Prop} {w : World} {p o t : Nat} {cs : Array Value} {v : Value} {L : List Hd} (h : HB S w p o t cs v L) : w.cell? ⟨p, o, none⟩ = some v := by
  rw [cell_of_row w p o _ t (0, 0) h.blk]
  exact Array.getElem?_setIfInBounds_self_of_lt h.at'
theorem HB.frozen {S : Nat → Prop} {w : World} {p o t : Nat} {cs : Array Value} {v : Value} {L : List Hd} (h : HB S w p o t cs v L) (k : Nat) : w.frozen? ⟨p, k, none⟩ = false := frozen_of_row w p k _ t h.blk
theorem HB.full {S : Nat → Prop} {w : World} {p o t : Nat} {cs : Array Value} {v : Value} {L : List Hd} (h : HB S w p o t cs v L) (hne : L ≠ []) : ∃ g c, v = .slice (some ⟨g, 0, none⟩) L.length c ∧ HRow w g c L ∧ g ≠ p ∧ S g := by
  rcases h.row with ⟨_, e⟩ | h
  · exact absurd e hne
  · exact h
/-- The row alone turned. -/
theorem HB.turn {S : Nat → Prop} {w w' : World} {p o t g c : Nat} {cs : Array Value} {L L' : List Hd} (h : HB S w p o t cs (.slice (some ⟨g, 0, none⟩) L.length c) L) (tt : Turns (fun k => k = g) w w') (hr : HRow w' g c L') (hp : L'.Perm L) (hg : g ≠ p) (hs : S g) : HB S w' p o t cs (.slice (some ⟨g, 0, none⟩) L.length c) L' where
  blk := tt.heap h.blk (Ne.symm hg)
  at' := h.at'
  sp := h.sp
  up := fun k hk => h.up k (Nat.le_trans tt.size hk)
  row := .inr ⟨g, c, by rw [hp.length_eq], hr, hg, hs⟩
  each := fun x hx => by
    have := h.each x (hp.mem_iff.1 hx)
    exact ⟨this.1.keep tt fun q hq e => this.2 q hq (e ▸ hs), this.2⟩
  len := by rw [hp.length_eq]; exact h.len
/-! The list as a function -/
def hf (L : List Hd) : Nat → Hd := fun k => (L[k]?).getD default
theorem hf_at {L : List Hd} {k : Nat} {x : Hd} (h : L[k]? = some x) : hf L k = x := by simp [hf, h]
theorem at_hf {L : List Hd} {k : Nat} (h : k < L.length) : L[k]? = some (hf L k) := by simp [hf, h]
theorem hf_swap (L : List Hd) (i j : Nat) (hi : i < L.length) (hj : j < L.length) : hf (Hp.swapL L i j (hf L i) (hf L j)) = Hp.swapF (hf L) i j := by
  funext k
  show ((Hp.swapL L i j (hf L i) (hf L j))[k]?).getD default = _
  rw [Hp.swapL_get L i j k _ _ (at_hf hi) (at_hf hj)]
  unfold Hp.swapF
  by_cases e1 : k = i
  · simp [e1, hf]
  · by_cases e2 : k = j
    · rw [if_neg e1, if_pos e2, if_neg e1, if_pos e2]; rfl
    · rw [if_neg e1, if_neg e2, if_neg e1, if_neg e2]; rfl
end Go.Proofs.Ytpgligfolecieaa

/-
  The methods of heads that are called through an interface's value.
-/
namespace Go.Proofs.Ytpgligfolecieaa
open Go.RowKit
set_option maxRecDepth 100000
set_option maxHeartbeats 4000000
theorem ti82 (w : World) : (typeInfo 92).run Try.prog w = .ok Try.t92 w := by kernel_rfl
theorem wrap82 (nm : String) (p o : Nat) (w : World) : (Builtin.ssaWrapNilChk_ #[92] 92 #[.pointer (some ⟨p, o, none⟩), strVal "", strVal nm]).run Try.prog w = .ok (.pointer (some ⟨p, o, none⟩)) w := by kernel_rfl
theorem isAgg50 (w : World) : (isAgg 86).run Try.prog w = .ok false w := by kernel_rfl
theorem isEmpty_nil : ((#[] : Array FieldStep).isEmpty = true) = True := by simp
theorem method_val (nm : String) (sig f : Nat) (hm : Try.t92.methods.find? (·.name == nm) = some ⟨nm, sig, #[], some (f, false)⟩) (p o n c : Nat) (a : Option Addr) (w : World) (h : w.cell? ⟨p, o, none⟩ = some (.slice a n c)) : (method 224 92 (.pointer (some ⟨p, o, none⟩)) nm).run Try.prog w = .ok (f, .slice a n c) w := by
  unfold method
  simp only [Sem.run_bind, ti82, Result.andThen_ok, hm, follow, receiverAt, Sem.run_pure, run_underlying Try.underlying92 w, isEmpty_nil, if_true, Place.get, wrap82, asAddr, loadVar, isAgg50, Bool.false_eq_true, if_false, run_load, h]
theorem method_len (p o n c : Nat) (a : Option Addr) (w : World) (h : w.cell? ⟨p, o, none⟩ = some (.slice a n c)) : (method 224 92 (.pointer (some ⟨p, o, none⟩)) "Len").run Try.prog w = .ok (100, .slice a n c) w :=
  method_val "Len" 99 100 (by kernel_rfl) p o n c a w h
theorem method_less (p o n c : Nat) (a : Option Addr) (w : World) (h : w.cell? ⟨p, o, none⟩ = some (.slice a n c)) : (method 224 92 (.pointer (some ⟨p, o, none⟩)) "Less").run Try.prog w = .ok (101, .slice a n c) w :=
  method_val "Less" 102 101 (by kernel_rfl) p o n c a w h
theorem method_swap (p o n c : Nat) (a : Option Addr) (w : World) (h : w.cell? ⟨p, o, none⟩ = some (.slice a n c)) : (method 224 92 (.pointer (some ⟨p, o, none⟩)) "Swap").run Try.prog w = .ok (102, .slice a n c) w :=
  method_val "Swap" 103 102 (by kernel_rfl) p o n c a w h
end Go.Proofs.Ytpgligfolecieaa

/-
  A head goes up.
-/
namespace Go.Proofs.Ytpgligfolecieaa
open Go.RowKit
set_option maxRecDepth 100000
set_option maxHeartbeats 4000000
theorem up_any (S : Nat → Prop) (p o t g c n j : Nat) (cs : Array Value) (L : List Hd) (w : World) (h : HB S w p o t cs (.slice (some ⟨g, 0, none⟩) n c) L) (hrow : HRow w g c L) (hn : n = L.length) (hgp : g ≠ p) (hsg : S g) (hj : j < n) (hh : Hp.HeapUp ltH (hf L) n j) :
    Calls Try.prog 80 #[.iface 92 (.pointer (some ⟨p, o, none⟩)), .int .i64 (j : Nat)] w fun e w' => ∃ L', (∃ v, e = .returned v) ∧ HB S w' p o t cs (.slice (some ⟨g, 0, none⟩) n c) L' ∧ HRow w' g c L' ∧ L'.Perm L ∧ Hp.Heap ltH (hf L') n ∧ Turns (fun k => k = g) w w' := by
  have HN := hide hn
  have H0 := hide h
  have HR0 := hide hrow
  have HH := hide hh
  have hlen : (n : Int) ≤ 1000000 := by have := h.len; omega
  clear h hrow hn hh
  go_enter Try.func80, Try.ntmps80
  go_wp2_with fail
  go_loopw [1] (fun v1 wr => ∃ (j : Nat) (L' : List Hd), v1 = .int .i64 (j : Nat) ∧ j < n ∧ HB S wr p o t cs (.slice (some ⟨g, 0, none⟩) n c) L' ∧ HRow wr g c L' ∧ L'.Perm L ∧ Hp.HeapUp ltH (hf L') n j ∧ Turns (fun k => k = g) w wr) (fun v1 _ => (intOf v1).toNat)
  case atStart =>
    exact ⟨j, L, rfl, hj, H0.out, HR0.out, .refl _, HH.out, Turns.refl _ _⟩
  case round =>
    obtain ⟨i, L1, rfl, hi, hB, hR, hP, hU, hT⟩ := hrel
    have B1 := hide hB
    have R1 := hide hR
    have P1 := hide hP
    have U1 := hide hU
    have T1 := hide hT
    have hcell := hB.cell
    clear hB hR hP hU hT
    rcases i with _ | i
    · go_wp2_with fail
      go_end0
      exact ⟨L1, ⟨_, rfl⟩, B1.out, R1.out, P1.out, Hp.up_done U1.out (.inl rfl), T1.out⟩
    · have hm1 := method_less p o n c _ wr hcell
      have hlt : ¬ ((i : Int) / 2 = i + 1) := by omega
      go_wp2_with fail
      have hL : L1.length = n := by rw [P1.out.length_eq]; exact HN.out.symm
      have hx := at_hf (L := L1) (k := i + 1) (by omega)
      have hy := at_hf (L := L1) (k := i / 2) (by omega)
      refine (less_any g c n (i + 1) (i / 2) L1 _ _ wr R1.out hL.symm hx hy (B1.out.each _ (List.mem_of_getElem? hx)).1 (B1.out.each _ (List.mem_of_getElem? hy)).1).mono ?_
      rintro e w1 ⟨rfl, hb⟩
      have t1 := Turns.of_below hb (fun _ => False)
      have hcell1 := t1.cell hcell (fun x => x)
      have hm2 := method_swap p o n c _ w1 hcell1
      have B2 := hide (B1.out.quiet t1)
      have R2 := hide (R1.out.keep t1 (fun x => x))
      have T2 := hide (T1.out.trans (Turns.of_below hb _))
      clear hb t1
      by_cases hl : ltH (hf L1 (i + 1)) (hf L1 (i / 2))
      · simp only [hl, decide_true]
        have HL := hide hl
        clear hl
        go_wp2_with fail
        refine (swap_any g c n (i / 2) (i + 1) L1 _ _ w1 R2.out hL.symm hy hx).mono ?_
        rintro e w2 ⟨⟨v, rfl⟩, hR3, hT3⟩
        have hP3 := Hp.swapL_perm L1 (i / 2) (i + 1) _ _ hy hx
        have B3 := hide (HB.turn (by rw [hL]; exact B2.out) hT3 hR3 hP3 hgp hsg)
        have R3 := hide hR3
        have P3 := hide (hP3.trans P1.out)
        have T3 := hide (T2.out.trans hT3)
        have U3 := hide (show Hp.HeapUp ltH (hf (Hp.swapL L1 (i / 2) (i + 1) (hf L1 (i / 2)) (hf L1 (i + 1)))) n (i / 2) by
          rw [hf_swap L1 _ _ (by omega) (by omega)]
          have := Hp.up_step ltH_asym ltH_tr U1.out (by omega) hi (by rw [show (i + 1 - 1) / 2 = i / 2 by omega]; exact HL.out)
          rw [show (i + 1 - 1) / 2 = i / 2 by omega] at this
          exact this)
        clear hR3 hT3 hP3
        go_wp2_with fail
        go_roundw
        case rel => exact ⟨i / 2, _, rfl, by omega, by have := B3.out; rw [hL] at this; exact this, R3.out, P3.out, U3.out, T3.out⟩
        case measure => simp [intOf]; omega
      · simp only [hl, decide_false]
        have HL := hide hl
        clear hl
        go_wp2_with fail
        go_end0
        exact ⟨L1, ⟨_, rfl⟩, B2.out, R2.out, P1.out, Hp.up_done U1.out (.inr (by rw [show (i + 1 - 1) / 2 = i / 2 by omega]; exact HL.out)), T2.out⟩
end Go.Proofs.Ytpgligfolecieaa

/-
  A head goes down.
-/
namespace Go.Proofs.Ytpgligfolecieaa
open Go.RowKit
set_option maxRecDepth 100000
set_option maxHeartbeats 4000000
theorem swap_drop {L : List Hd} {i j m : Nat} (hi : i < m) (hj : j < m) (_ : m ≤ L.length) : (Hp.swapL L i j (hf L i) (hf L j)).drop m = L.drop m := Hp.swapL_drop L i j m _ _ hi hj
theorem down_any (S : Nat → Prop) (p o t g c n i0 m : Nat) (cs : Array Value) (L : List Hd) (w : World) (h : HB S w p o t cs (.slice (some ⟨g, 0, none⟩) n c) L) (hrow : HRow w g c L) (hn : n = L.length) (hgp : g ≠ p) (hsg : S g) (hi0 : i0 < n) (hm : m ≤ n) (hh : Hp.HeapDown ltH (hf L) m i0) :
    Calls Try.prog 83 #[.iface 92 (.pointer (some ⟨p, o, none⟩)), .int .i64 (i0 : Nat), .int .i64 (m : Nat)] w fun e w' => ∃ L', (∃ b, e = .returned (.bool b)) ∧ HB S w' p o t cs (.slice (some ⟨g, 0, none⟩) n c) L' ∧ HRow w' g c L' ∧ L'.Perm L ∧ L'.drop m = L.drop m ∧ Hp.Heap ltH (hf L') m ∧ Turns (fun k => k = g) w w' := by
  have HN := hide hn
  have H0 := hide h
  have HR0 := hide hrow
  have HH := hide hh
  have hlen : (n : Int) ≤ 1000000 := by have := h.len; omega
  have HM := hide hm
  have hmi : (m : Int) ≤ 1000000 := by omega
  clear h hrow hn hh hm
  go_enter Try.func83, Try.ntmps83
  go_wp2_with fail
  go_loopw [7] (fun v7 wr => ∃ (i : Nat) (L' : List Hd), v7 = .int .i64 (i : Nat) ∧ i < n ∧ HB S wr p o t cs (.slice (some ⟨g, 0, none⟩) n c) L' ∧ HRow wr g c L' ∧ L'.Perm L ∧ L'.drop m = L.drop m ∧ Hp.HeapDown ltH (hf L') m i ∧ Turns (fun k => k = g) w wr) (fun v7 _ => (1000000 - intOf v7).toNat)
  case atStart =>
    exact ⟨i0, L, rfl, hi0, H0.out, HR0.out, .refl _, rfl, HH.out, Turns.refl _ _⟩
  case round =>
    obtain ⟨i, L1, rfl, hi, hB, hR, hP, hD, hU, hT⟩ := hrel
    have B1 := hide hB
    have R1 := hide hR
    have P1 := hide hP
    have D1 := hide hD
    have U1 := hide hU
    have T1 := hide hT
    have hcell := hB.cell
    have hL := hide (show L1.length = n by rw [hP.length_eq]; exact HN.out.symm)
    clear hB hR hP hU hT hD
    have hm1 := method_less p o n c _ wr hcell
    have hi2 : (i : Int) < n := by omega
    by_cases h1 : (m : Int) ≤ 2 * i + 1
    · have X := hide (show Hp.Heap ltH (hf L1) m from Hp.down_done1 U1.out (by omega))
      go_wp2_with fail
      all_goals go_ret
      all_goals exact ⟨L1, ⟨_, rfl⟩, B1.out, R1.out, P1.out, D1.out, X.out, T1.out⟩
    · have hx1 := at_hf (L := L1) (k := 2 * i + 1) (by have := hL.out; have := HM.out; omega)
      by_cases h2 : (2 * (i : Int) + 1 + 1) < m
      · have hx2 := at_hf (L := L1) (k := 2 * i + 1 + 1) (by have := hL.out; have := HM.out; omega)
        go_wp2_with fail
        refine (less_any g c n (2 * i + 1 + 1) (2 * i + 1) L1 _ _ wr R1.out hL.out.symm hx2 hx1 (B1.out.each _ (List.mem_of_getElem? hx2)).1 (B1.out.each _ (List.mem_of_getElem? hx1)).1).mono ?_
        rintro e w1 ⟨rfl, hb⟩
        have t1 := Turns.of_below hb (fun _ => False)
        have hcellq := t1.cell hcell (fun x => x)
        have hmq := method_less p o n c _ w1 hcellq
        have Bq := hide (B1.out.quiet t1)
        have Rq := hide (R1.out.keep t1 (fun x => x))
        have Tq := hide (T1.out.trans (Turns.of_below hb _))
        clear hb t1
        by_cases hl : ltH (hf L1 (2 * i + 1 + 1)) (hf L1 (2 * i + 1))
        · simp only [hl, decide_true]
          have HC := hide (show ∀ k, 0 < k → k < m → (k - 1) / 2 = i → ¬ ltH (hf L1 k) (hf L1 (2 * i + 1 + 1)) from fun k h0 hk e => by
            rcases (show k = 2 * i + 1 ∨ k = 2 * i + 1 + 1 by omega) with rfl | rfl
            · exact ltH_asym _ _ hl
            · exact ltH_irr _)
          clear hl
          go_wp2_with fail
          have hxJ := at_hf (L := L1) (k := 2 * i + 1 + 1) (by have := hL.out; have := HM.out; omega)
          have hyI := at_hf (L := L1) (k := i) (by have := hL.out; have := HM.out; omega)
          refine (less_any g c n (2 * i + 1 + 1) i L1 _ _ _ Rq.out hL.out.symm hxJ hyI (Bq.out.each _ (List.mem_of_getElem? hxJ)).1 (Bq.out.each _ (List.mem_of_getElem? hyI)).1).mono ?_
          rintro e w2 ⟨rfl, hb⟩
          have t1 := Turns.of_below hb (fun _ => False)
          have hcell2 := t1.cell hcellq (fun x => x)
          have hm3 := method_swap p o n c _ w2 hcell2
          have B2 := hide (Bq.out.quiet t1)
          have R2 := hide (Rq.out.keep t1 (fun x => x))
          have T2 := hide (Tq.out.trans (Turns.of_below hb _))
          clear hb t1
          by_cases hl : ltH (hf L1 (2 * i + 1 + 1)) (hf L1 i)
          · simp only [hl, decide_true]
            have HL := hide hl
            clear hl
            go_wp2_with fail
            refine (swap_any g c n i (2 * i + 1 + 1) L1 _ _ w2 R2.out hL.out.symm hyI hxJ).mono ?_
            rintro e w3 ⟨⟨v, rfl⟩, hR3, hT3⟩
            have hP3 := Hp.swapL_perm L1 i (2 * i + 1 + 1) _ _ hyI hxJ
            have B3 := hide (HB.turn (by rw [hL.out]; exact B2.out) hT3 hR3 hP3 hgp hsg)
            have R3 := hide hR3
            have P3 := hide (hP3.trans P1.out)
            have D3 := hide ((swap_drop (L := L1) (i := i) (j := 2 * i + 1 + 1) (m := m) (by omega) (by omega) (by rw [hL.out]; exact HM.out)).trans D1.out)
            have T3 := hide (T2.out.trans hT3)
            have U3 := hide (show Hp.HeapDown ltH (hf (Hp.swapL L1 i (2 * i + 1 + 1) (hf L1 i) (hf L1 (2 * i + 1 + 1)))) m (2 * i + 1 + 1) by
              rw [hf_swap L1 _ _ (by have := hL.out; have := HM.out; omega) (by have := hL.out; have := HM.out; omega)]
              exact Hp.down_step ltH_asym U1.out (by omega) (by omega) (by omega) HC.out HL.out)
            clear hR3 hT3 hP3
            go_wp2_with fail
            go_roundw
            case rel => exact ⟨2 * i + 1 + 1, _, rfl, by have := HM.out; omega, by have := B3.out; rw [hL.out] at this; exact this, R3.out, P3.out, D3.out, U3.out, T3.out⟩
            case measure => simp [intOf]; omega
          · simp only [hl, decide_false]
            have HL := hide hl
            clear hl
            go_wp2_with fail
            go_ret
            exact ⟨L1, ⟨_, rfl⟩, B2.out, R2.out, P1.out, D1.out, Hp.down_done2 ltH_tr U1.out HC.out HL.out, T2.out⟩
        · simp only [hl, decide_false]
          have HC := hide (show ∀ k, 0 < k → k < m → (k - 1) / 2 = i → ¬ ltH (hf L1 k) (hf L1 (2 * i + 1)) from fun k h0 hk e => by
            rcases (show k = 2 * i + 1 ∨ k = 2 * i + 1 + 1 by omega) with rfl | rfl
            · exact ltH_irr _
            · exact hl)
          clear hl
          go_wp2_with fail
          have hxJ := at_hf (L := L1) (k := 2 * i + 1) (by have := hL.out; have := HM.out; omega)
          have hyI := at_hf (L := L1) (k := i) (by have := hL.out; have := HM.out; omega)
          refine (less_any g c n (2 * i + 1) i L1 _ _ _ Rq.out hL.out.symm hxJ hyI (Bq.out.each _ (List.mem_of_getElem? hxJ)).1 (Bq.out.each _ (List.mem_of_getElem? hyI)).1).mono ?_
          rintro e w2 ⟨rfl, hb⟩
          have t1 := Turns.of_below hb (fun _ => False)
          have hcell2 := t1.cell hcellq (fun x => x)
          have hm3 := method_swap p o n c _ w2 hcell2
          have B2 := hide (Bq.out.quiet t1)
          have R2 := hide (Rq.out.keep t1 (fun x => x))
          have T2 := hide (Tq.out.trans (Turns.of_below hb _))
          clear hb t1
          by_cases hl : ltH (hf L1 (2 * i + 1)) (hf L1 i)
          · simp only [hl, decide_true]
            have HL := hide hl
            clear hl
            go_wp2_with fail
            refine (swap_any g c n i (2 * i + 1) L1 _ _ w2 R2.out hL.out.symm hyI hxJ).mono ?_
            rintro e w3 ⟨⟨v, rfl⟩, hR3, hT3⟩
            have hP3 := Hp.swapL_perm L1 i (2 * i + 1) _ _ hyI hxJ
            have B3 := hide (HB.turn (by rw [hL.out]; exact B2.out) hT3 hR3 hP3 hgp hsg)
            have R3 := hide hR3
            have P3 := hide (hP3.trans P1.out)
            have D3 := hide ((swap_drop (L := L1) (i := i) (j := 2 * i + 1) (m := m) (by omega) (by omega) (by rw [hL.out]; exact HM.out)).trans D1.out)
            have T3 := hide (T2.out.trans hT3)
            have U3 := hide (show Hp.HeapDown ltH (hf (Hp.swapL L1 i (2 * i + 1) (hf L1 i) (hf L1 (2 * i + 1)))) m (2 * i + 1) by
              rw [hf_swap L1 _ _ (by have := hL.out; have := HM.out; omega) (by have := hL.out; have := HM.out; omega)]
              exact Hp.down_step ltH_asym U1.out (by omega) (by omega) (by omega) HC.out HL.out)
            clear hR3 hT3 hP3
            go_wp2_with fail
            go_roundw
            case rel => exact ⟨2 * i + 1, _, rfl, by have := HM.out; omega, by have := B3.out; rw [hL.out] at this; exact this, R3.out, P3.out, D3.out, U3.out, T3.out⟩
            case measure => simp [intOf]; omega
          · simp only [hl, decide_false]
            have HL := hide hl
            clear hl
            go_wp2_with fail
            go_ret
            exact ⟨L1, ⟨_, rfl⟩, B2.out, R2.out, P1.out, D1.out, Hp.down_done2 ltH_tr U1.out HC.out HL.out, T2.out⟩
      · have HC := hide (show ∀ k, 0 < k → k < m → (k - 1) / 2 = i → ¬ ltH (hf L1 k) (hf L1 (2 * i + 1)) from fun k h0 hk e => by
          obtain rfl : k = 2 * i + 1 := by omega
          exact ltH_irr _)
        have hcellq := hcell
        have Bq := B1
        have Rq := R1
        have Tq := T1
        go_wp2_with fail
        have hxJ := at_hf (L := L1) (k := 2 * i + 1) (by have := hL.out; have := HM.out; omega)
        have hyI := at_hf (L := L1) (k := i) (by have := hL.out; have := HM.out; omega)
        refine (less_any g c n (2 * i + 1) i L1 _ _ _ Rq.out hL.out.symm hxJ hyI (Bq.out.each _ (List.mem_of_getElem? hxJ)).1 (Bq.out.each _ (List.mem_of_getElem? hyI)).1).mono ?_
        rintro e w2 ⟨rfl, hb⟩
        have t1 := Turns.of_below hb (fun _ => False)
        have hcell2 := t1.cell hcellq (fun x => x)
        have hm3 := method_swap p o n c _ w2 hcell2
        have B2 := hide (Bq.out.quiet t1)
        have R2 := hide (Rq.out.keep t1 (fun x => x))
        have T2 := hide (Tq.out.trans (Turns.of_below hb _))
        clear hb t1
        by_cases hl : ltH (hf L1 (2 * i + 1)) (hf L1 i)
        · simp only [hl, decide_true]
          have HL := hide hl
          clear hl
          go_wp2_with fail
          refine (swap_any g c n i (2 * i + 1) L1 _ _ w2 R2.out hL.out.symm hyI hxJ).mono ?_
          rintro e w3 ⟨⟨v, rfl⟩, hR3, hT3⟩
          have hP3 := Hp.swapL_perm L1 i (2 * i + 1) _ _ hyI hxJ
          have B3 := hide (HB.turn (by rw [hL.out]; exact B2.out) hT3 hR3 hP3 hgp hsg)
          have R3 := hide hR3
          have P3 := hide (hP3.trans P1.out)
          have D3 := hide ((swap_drop (L := L1) (i := i) (j := 2 * i + 1) (m := m) (by omega) (by omega) (by rw [hL.out]; exact HM.out)).trans D1.out)
          have T3 := hide (T2.out.trans hT3)
          have U3 := hide (show Hp.HeapDown ltH (hf (Hp.swapL L1 i (2 * i + 1) (hf L1 i) (hf L1 (2 * i + 1)))) m (2 * i + 1) by
            rw [hf_swap L1 _ _ (by have := hL.out; have := HM.out; omega) (by have := hL.out; have := HM.out; omega)]
            exact Hp.down_step ltH_asym U1.out (by omega) (by omega) (by omega) HC.out HL.out)
          clear hR3 hT3 hP3
          go_wp2_with fail
          go_roundw
          case rel => exact ⟨2 * i + 1, _, rfl, by have := HM.out; omega, by have := B3.out; rw [hL.out] at this; exact this, R3.out, P3.out, D3.out, U3.out, T3.out⟩
          case measure => simp [intOf]; omega
        · simp only [hl, decide_false]
          have HL := hide hl
          clear hl
          go_wp2_with fail
          go_ret
          exact ⟨L1, ⟨_, rfl⟩, B2.out, R2.out, P1.out, D1.out, Hp.down_done2 ltH_tr U1.out HC.out HL.out, T2.out⟩
end Go.Proofs.Ytpgligfolecieaa

/-
  A head is put behind the others.
-/
namespace Go.Proofs.Ytpgligfolecieaa
open Go.RowKit
set_option maxRecDepth 100000
set_option maxHeartbeats 4000000
theorem t84_size : Try.t94.size = 2 := by kernel_rfl
theorem t84_bytes : Try.t94.bytes = 32 := by kernel_rfl
theorem t84_info : Try.prog.info? 94 = some Try.t94 := by kernel_rfl
theorem t84_zero : Try.t94.zero = some (.agg #[.slice none 0 0, .int .i64 0]) := by kernel_rfl
theorem hdCells_snoc (L : List Hd) (x : Hd) : hdCells (L ++ [x]) = hdCells L ++ [x.sv, .int .i64 (x.no : Nat)] := by simp [hdCells]
theorem set_set (cs : Array Value) (o : Nat) (a b : Value) : (cs.setIfInBounds o a).setIfInBounds o b = cs.setIfInBounds o b := by
  apply Array.ext_getElem?
  intro i
  simp only [Array.getElem?_setIfInBounds, Array.size_setIfInBounds]
  split <;> rfl
/-- What append answers of one head. -/
theorem append_head (w : World) (v : Value) (L : List Hd) (hrow : (v = .slice none 0 0 ∧ L = []) ∨ ∃ g c, v = .slice (some ⟨g, 0, none⟩) L.length c ∧ HRow w g c L) (hlen : L.length ≤ 1000000) (x : Hd) (q c1 : Nat) (hq : w.heap[q]? = some (.cells #[x.sv, .int .i64 (x.no : Nat)] 94 (0, 0))) :
    ∃ (g' c' : Nat) (w' : World), (∀ ty, (Builtin.append_ #[86, 86] ty #[v, .slice (some ⟨q, 0, none⟩) 1 c1]).run Try.prog w = .ok (.slice (some ⟨g', 0, none⟩) (L.length + 1) c') w') ∧ HRow w' g' c' (L ++ [x]) ∧ Turns (inRow v) w w' ∧ (inRow v g' ∨ g' = w.heap.size) := by
  have hcell : ∀ j, w.cell? ⟨q, j, none⟩ = (#[x.sv, .int .i64 (x.no : Nat)] : Array Value)[j]? := fun j => cell_of_row w q j _ 94 (0, 0) hq
  have hsrc : Src Try.prog Try.t94.size 86 (.slice (some ⟨q, 0, none⟩) 1 c1) 1 [x.sv, .int .i64 (x.no : Nat)] w := Src.ofSlice w Try.underlying86 ⟨q, 0, none⟩ 1 c1 _ (by rw [t84_size]; rfl) (fun j u hu => by
    rw [Go.WideShapes.add_plain, Nat.zero_add, hcell j]
    simpa using hu) (fun u hu => by
    simp only [List.mem_cons, List.not_mem_nil, or_false] at hu
    rcases hu with rfl | rfl <;> rfl)
  obtain ⟨base, sLen, sCap, rfl, hsl, hbase⟩ : ∃ (base : Option Addr) (sLen sCap : Nat), v = .slice base sLen sCap ∧ sLen = L.length ∧ ((base = none ∧ sLen = 0 ∧ sCap = 0 ∧ 0 < 1) ∨ ∃ g, base = some ⟨g, 0, none⟩ ∧ 0 ≤ g ∧ sLen ≤ sCap ∧ RowC w g 94 (sCap * Try.t94.size) (hdCells L)) := by
    rcases hrow with ⟨rfl, rfl⟩ | ⟨g, c, rfl, h4, h5⟩
    · exact ⟨none, 0, 0, rfl, rfl, .inl ⟨rfl, rfl, rfl, by omega⟩⟩
    · exact ⟨_, _, _, rfl, rfl, .inr ⟨g, rfl, Nat.zero_le _, h4, by rw [t84_size]; exact h5⟩⟩
  obtain ⟨g', cp, w', hr, hg', hrw, hb, hcp, hin, hnew, hkeep⟩ := append_gen2 (P := Try.prog) w 0 86 94 Try.t94 _ Try.underlying86 t84_info t84_zero rfl base sLen sCap (hdCells L) (by rw [t84_size, hsl, hdCells_length]) _ 1 _ hsrc (Nat.zero_le _) hbase (by rw [t84_bytes]; omega) (by omega)
  subst hsl
  refine ⟨g', cp, w', hr, ⟨by simpa using hcp, ?_⟩, ⟨hb.os, hb.tape, hb.output, hb.size, fun k hk hn => hkeep k hk fun e => hn ⟨_, sCap, by rw [e]⟩⟩, ?_⟩
  · rw [t84_size] at hrw
    rw [hdCells_snoc]
    exact hrw
  · rcases Nat.lt_or_ge sCap (L.length + 1) with h1 | h1
    · exact .inr (hnew h1)
    · exact .inl ⟨_, sCap, by rw [(hin h1).1]⟩
/-- What came of the heads: some blocks turned, and where their row lies. -/
def Moved (p : Nat) (v v' : Value) (w w' : World) : Prop := Turns (fun k => k = p ∨ inRow v k) w w' ∧ ∀ k, inRow v' k → inRow v k ∨ w.heap.size ≤ k
theorem Moved.trans {p : Nat} {v v' v'' : Value} {a b c : World} (h : Moved p v v' a b) (k : Moved p v' v'' b c) : Moved p v v'' a c :=
  ⟨h.1.andThen k.1 fun i hi hs => by
    rcases hs with hs | hs
    · exact .inl hs
    · rcases h.2 i hs with x | x
      · exact .inr x
      · omega, fun i hi => by
    rcases k.2 i hi with x | x
    · exact h.2 i x
    · exact .inr (Nat.le_trans h.1.size x)⟩
theorem Moved.row {p g n c n' c' : Nat} {w w' : World} (h : Turns (fun k => k = g) w w') : Moved p (.slice (some ⟨g, 0, none⟩) n c) (.slice (some ⟨g, 0, none⟩) n' c') w w' :=
  ⟨h.mono fun k _ e => .inr ⟨n, c, by rw [e]⟩, fun k hk => .inl (by obtain ⟨_, _, e⟩ := hk; cases e; exact ⟨_, _, rfl⟩)⟩
theorem Moved.quiet {p : Nat} {v : Value} {w w' : World} (h : Turns (fun _ => False) w w') : Moved p v v w w' := ⟨h.mono fun _ _ x => x.elim, fun _ hk => .inl hk⟩
theorem push_any (S : Nat → Prop) (p o t : Nat) (cs : Array Value) (v : Value) (L : List Hd) (x : Hd) (w : World) (h : HB S w p o t cs v L) (hx : HdOk w x) (hxs : ∀ q, x.uses q → ¬ S q) (hlen : L.length < 1000000) :
    Calls Try.prog 106 #[.pointer (some ⟨p, o, none⟩), .iface 94 (.agg #[.slice (some ⟨x.b, x.off, none⟩) x.R.length x.c, .int .i64 (x.no : Nat)])] w fun e w' => ∃ g c, (∃ u, e = .returned u) ∧ HB S w' p o t cs (.slice (some ⟨g, 0, none⟩) (L.length + 1) c) (L ++ [x]) ∧ HRow w' g c (L ++ [x]) ∧ g ≠ p ∧ S g ∧ Moved p v (.slice (some ⟨g, 0, none⟩) (L.length + 1) c) w w' := by
  have hrow := h.row
  have hcell := h.cell
  obtain ⟨a, n, c, rfl⟩ : ∃ a n c, v = .slice a n c := by
    rcases hrow with ⟨rfl, _⟩ | ⟨g, c, rfl, _⟩
    · exact ⟨_, _, _, rfl⟩
    · exact ⟨_, _, _, rfl⟩
  obtain ⟨xb, xo, xc, xR, xn⟩ := x
  simp only at *
  generalize hxl : xR.length = xl at *
  have t0 : Turns (fun _ => False) w (w.drew.alloc (.cells #[.slice (some ⟨xb, xo, none⟩) xl xc, .int .i64 (xn : Nat)] 94)) := (Turns.refl _ w).drew.alloc _
  have hrow0 : (Value.slice a n c = .slice none 0 0 ∧ L = []) ∨ ∃ g c', Value.slice a n c = .slice (some ⟨g, 0, none⟩) L.length c' ∧ HRow (w.drew.alloc (.cells #[.slice (some ⟨xb, xo, none⟩) xl xc, .int .i64 (xn : Nat)] 94)) g c' L := by
    rcases hrow with e | ⟨g, c', e, h1, _⟩
    · exact .inl e
    · exact .inr ⟨g, c', e, h1.keep t0 (fun x => x)⟩
  have hq := heap_alloc_new w.drew (.cells #[.slice (some ⟨xb, xo, none⟩) xl xc, .int .i64 (xn : Nat)] 94)
  obtain ⟨g', c', w', hr, hrow', ht', hg'⟩ := append_head (w.drew.alloc (.cells #[.slice (some ⟨xb, xo, none⟩) xl xc, .int .i64 (xn : Nat)] 94)) (.slice a n c) L hrow0 (by omega) ⟨xb, xo, xc, xR, xn⟩ w.drew.heap.size 1 (by rw [hq]; simp only [Hd.sv, hxl])
  have hinp : ∀ k, inRow (.slice a n c) k → k ≠ p ∧ S k := fun k ⟨n', c', e⟩ => by
    rcases hrow with ⟨e1, _⟩ | ⟨g, c1, e1, _, h2, h3⟩
    · rw [e1] at e; cases e
    · rw [e1] at e; cases e; exact ⟨h2, h3⟩
  have hpl := lt_of_heap h.blk
  have hsz : (w.drew.alloc (.cells #[.slice (some ⟨xb, xo, none⟩) xl xc, .int .i64 (xn : Nat)] 94)).heap.size = w.heap.size + 1 := by simp
  have hgp : g' ≠ p ∧ S g' := by
    rcases hg' with e | e
    · exact hinp _ e
    · rw [hsz] at e
      exact ⟨by omega, h.up _ (by omega)⟩
  have hblk' : w'.heap[p]? = some (.cells (cs.setIfInBounds o (.slice a n c)) t (0, 0)) := ht'.heap (t0.heap h.blk (fun x => x)) fun e => (hinp p e).1 rfl
  have cellp := cell_of_row w' p o _ t (0, 0) hblk'
  rw [Array.getElem?_setIfInBounds_self_of_lt h.at'] at cellp
  have frp := frozen_of_row w' p o _ t hblk'
  have hblk2 := heap_setCell_same w' p o _ t (.slice (some ⟨g', 0, none⟩) (L.length + 1) c') hblk'
  rw [set_set] at hblk2
  have tp : Turns (fun k => k = p) w' (w'.setCell ⟨p, o, none⟩ (.slice (some ⟨g', 0, none⟩) (L.length + 1) c')) := turns_cell (Turns.refl _ _) _ _
  have hall : Turns (fun k => k = p ∨ inRow (.slice a n c) k) w (w'.setCell ⟨p, o, none⟩ (.slice (some ⟨g', 0, none⟩) (L.length + 1) c')) :=
    ((t0.mono fun _ _ x => x.elim).trans (ht'.mono fun _ _ x => .inr x)).trans (tp.mono fun _ _ x => .inl x)
  have FIN := hide (show ∃ g c1, (∃ u, Ending.returned (.tuple #[]) = .returned u) ∧ HB S (w'.setCell ⟨p, o, none⟩ (.slice (some ⟨g', 0, none⟩) (L.length + 1) c')) p o t cs (.slice (some ⟨g, 0, none⟩) (L.length + 1) c1) (L ++ [⟨xb, xo, xc, xR, xn⟩]) ∧ HRow (w'.setCell ⟨p, o, none⟩ (.slice (some ⟨g', 0, none⟩) (L.length + 1) c')) g c1 (L ++ [⟨xb, xo, xc, xR, xn⟩]) ∧ g ≠ p ∧ S g ∧ Moved p (.slice a n c) (.slice (some ⟨g, 0, none⟩) (L.length + 1) c1) w (w'.setCell ⟨p, o, none⟩ (.slice (some ⟨g', 0, none⟩) (L.length + 1) c')) by
    have hrw : HRow (w'.setCell ⟨p, o, none⟩ (.slice (some ⟨g', 0, none⟩) (L.length + 1) c')) g' c' (L ++ [⟨xb, xo, xc, xR, xn⟩]) := hrow'.keep tp hgp.1
    have hSall : ∀ k, (k = p ∨ inRow (.slice a n c) k) → S k := fun k hk => by
      rcases hk with e | e
      · rw [e]; exact h.sp
      · exact (hinp k e).2
    refine ⟨g', c', ⟨_, rfl⟩, ⟨hblk2, h.at', h.sp, fun k hk => h.up k (Nat.le_trans hall.size hk), .inr ⟨g', c', by rw [List.length_append]; rfl, hrw, hgp.1, hgp.2⟩, fun y hy => ?_, by rw [List.length_append]; simp; omega⟩, hrw, hgp.1, hgp.2, hall, fun k hk => ?_⟩
    · rcases List.mem_append.1 hy with hy | hy
      · exact ⟨(h.each y hy).1.keep hall fun q hq e => (h.each y hy).2 q hq (hSall q e), (h.each y hy).2⟩
      · obtain rfl : y = ⟨xb, xo, xc, xR, xn⟩ := by simpa using hy
        exact ⟨hx.keep hall fun q hq e => hxs q hq (hSall q e), hxs⟩
    · obtain ⟨_, _, e⟩ := hk
      cases e
      rcases hg' with x | x
      · exact .inl x
      · rw [hsz] at x
        exact .inr (by omega))
  have hta : ∀ w, (Instr.typeAssert (.iface 94 (.agg #[.slice (some ⟨xb, xo, none⟩) xl xc, .int .i64 (xn : Nat)])) 20 94 false).run Try.prog w = .ok (.agg #[.slice (some ⟨xb, xo, none⟩) xl xc, .int .i64 (xn : Nat)]) w := fun w => by kernel_rfl
  have HA := hide hr
  have SK := hide (show w.drew.cell? ⟨p, o, none⟩ = some (.slice a n c) from hcell)
  have DR := hide (show w.drew.heap.size = w.heap.size from rfl)
  rw [DR.out] at HA
  clear h hrow hx hxs t0 hrow0 hq hr hrow' ht' hg' hinp hsz hgp hblk' hblk2 tp hall hxl hcell
  go_enter Try.func106, Try.ntmps106
  go_upto_region 0 with (fail)
  refine wp_region_z_drew 7 (S := fun u => u.cell? ⟨p, o, none⟩ = some (.slice a n c)) (by kernel_rfl) SK.out (fun _ => ?_)
  change wpAnyZ _ _ _ _ _ _ 10 (Array.replicate 10 false) _ _
  refine wpAnyZ_late (i := 0) (oi := { dst := some 4, op := Op.move (Operand.tmp 0), type := 92, pos := "heads.go:84", after := #[], guard := none }) (v := .pointer (some ⟨p, o, none⟩)) rfl (by kernel_rfl) (by kernel_rfl) (by kernel_rfl) (by kernel_rfl) (fun _ _ _ h => h) (Or.inl ⟨by rfl, ?_⟩) (.inr SK.out) ?_
  · rintro w -
    go_simp
  simp only [Act.put, List.setIfInBounds_toArray, List.set_cons_zero, List.set_cons_succ]
  refine wpAnyZ_late (i := 1) (oi := { dst := some 5, op := Op.move (Operand.tmp 0), type := 92, pos := "heads.go:84", after := #[], guard := none }) (v := .pointer (some ⟨p, o, none⟩)) rfl (by kernel_rfl) (by kernel_rfl) (by kernel_rfl) (by kernel_rfl) (fun _ _ _ h => h) (Or.inl ⟨by rfl, ?_⟩) (.inr SK.out) ?_
  · rintro w -
    go_simp
  simp only [Act.put, List.setIfInBounds_toArray, List.set_cons_zero, List.set_cons_succ]
  refine wpAnyZ_late (i := 2) (oi := { dst := some 6, op := Op.nilCheck (Operand.tmp 5), type := 0, pos := "heads.go:84", after := #[{ on := 1, ground := Ground.data }], guard := none }) (v := .pointer (some ⟨p, o, none⟩)) rfl (by kernel_rfl) (by kernel_rfl) (by kernel_rfl) (by kernel_rfl) (fun _ _ _ h => h) (Or.inl ⟨by rfl, ?_⟩) (.inr SK.out) ?_
  · rintro w -
    go_simp
  simp only [Act.put, List.setIfInBounds_toArray, List.set_cons_zero, List.set_cons_succ]
  refine wpAnyZ_take (i := 3) (oi := { dst := some 7, op := Op.load 86 (Operand.tmp 6), type := 86, pos := "heads.go:84", after := #[{ on := 2, ground := Ground.data }], guard := none }) (v := .slice a n c) rfl (by kernel_rfl) (by kernel_rfl) (by kernel_rfl) (by kernel_rfl) (fun _ _ _ h => h) (Or.inl ⟨by rfl, ?_⟩) SK.out ?_
  · rintro w hc
    go_simp
  simp only [Act.put, List.setIfInBounds_toArray, List.set_cons_zero, List.set_cons_succ]
  refine wpAnyZ_late (i := 4) (oi := { dst := some 8, op := Op.move (Operand.tmp 1), type := 20, pos := "heads.go:84", after := #[], guard := none }) (v := .iface 94 (.agg #[.slice (some ⟨xb, xo, none⟩) xl xc, .int .i64 (xn : Nat)])) rfl (by kernel_rfl) (by kernel_rfl) (by kernel_rfl) (by kernel_rfl) (fun _ _ _ h => h) (Or.inl ⟨by rfl, ?_⟩) (.inr SK.out) ?_
  · rintro w -
    go_simp
  simp only [Act.put, List.setIfInBounds_toArray, List.set_cons_zero, List.set_cons_succ]
  refine wpAnyZ_late (i := 5) (oi := { dst := some 9, op := Op.typeAssert (Operand.tmp 8) 20 94 false, type := 94, pos := "heads.go:84", after := #[{ on := 4, ground := Ground.data }], guard := none }) (v := .agg #[.slice (some ⟨xb, xo, none⟩) xl xc, .int .i64 (xn : Nat)]) rfl (by kernel_rfl) (by kernel_rfl) (by kernel_rfl) (by kernel_rfl) (fun _ _ _ h => h) (Or.inl ⟨by rfl, ?_⟩) (.inr SK.out) ?_
  · rintro w -
    go_simp
  simp only [Act.put, List.setIfInBounds_toArray, List.set_cons_zero, List.set_cons_succ]
  refine wpAnyZ_ready (rs := [6]) (by kernel_rfl) (by simp) ?_
  refine AllReadyZ.cons rfl (fun K hK => ?_) AllReadyZ.nil
  go_simp
  refine hK.out _ _ (alloc_keep SK.out _) (fun _ => ?_)
  clear hK K
  rw [show (w.alloc (.cells #[.slice (some ⟨xb, xo, none⟩) xl xc, .int .i64 (xn : Nat)] 94)).drew = w.drew.alloc (.cells #[.slice (some ⟨xb, xo, none⟩) xl xc, .int .i64 (xn : Nat)] 94) from rfl]
  generalize hV1 : w.drew.alloc (.cells #[.slice (some ⟨xb, xo, none⟩) xl xc, .int .i64 (xn : Nat)] 94) = V1 at *
  generalize hG1 : w.heap.size = G1 at *
  refine wpAnyZ_ready (rs := [7]) (by kernel_rfl) (by simp) ?_
  refine AllReadyZ.free rfl (by kernel_rfl) (fun K hK => ?_) AllReadyZ.nil
  refine step_append_run rfl (.tmp 7) (.tmp 10) 86 rfl (.slice a n c) (.slice (some ⟨G1, 0, none⟩) 1 1) rfl rfl _ _ (HA.out _) _ rfl ?_
  refine hK.out _ _ ?_
  clear hK K
  refine wpAnyZ_late (i := 8) (oi := { dst := some 12, op := Op.nilCheck (Operand.tmp 4), type := 0, pos := "heads.go:84", after := #[{ on := 0, ground := Ground.data }, { on := 0, ground := Ground.phase }, { on := 1, ground := Ground.phase }, { on := 2, ground := Ground.phase }, { on := 3, ground := Ground.phase }, { on := 4, ground := Ground.phase }, { on := 5, ground := Ground.phase }, { on := 6, ground := Ground.phase }, { on := 7, ground := Ground.phase }], guard := none }) (v := .pointer (some ⟨p, o, none⟩)) rfl (by kernel_rfl) (by kernel_rfl) (by kernel_rfl) (by kernel_rfl) (fun _ _ _ h => h) (Or.inl ⟨by rfl, ?_⟩) (.inl (by kernel_rfl)) ?_
  · rintro w -
    go_simp
  simp only [Act.put, List.setIfInBounds_toArray, List.set_cons_zero, List.set_cons_succ]
  refine wpAnyZ_ready (rs := [9]) (by kernel_rfl) (by simp) ?_
  refine AllReadyZ.free rfl (by kernel_rfl) (fun K hK => ?_) AllReadyZ.nil
  go_simp
  refine hK.out _ _ ?_
  clear hK K
  refine wpAnyZ_done (by kernel_rfl) ?_ _
  go_wp2_with fail
  go_end0
  exact FIN.out
end Go.Proofs.Ytpgligfolecieaa
