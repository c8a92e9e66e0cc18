import Derived.Test.YtefjljdgdoklmaaM32
import Derived.Deep.RegionHeld
/-
  A call of each file system: Read and Crash.
-/
namespace Go.Proofs.Ytefjljdgdoklmaa
open Go.RowKit Go.Maps Go.Sort
theorem nothing (w : World) (a : Option Addr) (c : Nat) : Bytes w (.slice a 0 c) [] := ⟨_, c, rfl, fun k hk => by simp at hk⟩
section
variable {B i f q : Nat} {w : World} {d : Disk} {r : RDisk} {A C : Nat → Prop} {rho : Nat → Nat}
theorem read_pair (hm : Mem2 B f q w d r A C) (hB : B ≤ w.heap.size) (hi : Inv i rho d r) (hb : i ≤ 900) (name : ByteArray) (hn : name.size ≤ 1000) (at' n : Int) (b1 : at' ≤ 9223372036854775807) (b2 : n ≤ 9223372036854775807) :
    Calls Try.prog 20 #[.pointer (some ⟨f, 0, none⟩), .string name, .int .i64 at', .int .i64 n] w fun e w1 => ∃ (a : Option Addr) (m c : Nat) (z : Int) (bs : List (BitVec 8)), e = .returned (.tuple #[.slice a m c, .int .i64 z]) ∧ Turns (AC A C) w w1 ∧
      Calls Try.prog 61 #[.pointer (some ⟨q, 0, none⟩), .string name, .int .i64 at', .int .i64 n] w1 fun e2 w2 => ∃ (a' : Option Addr) (c' : Nat), e2 = .returned (.tuple #[.slice a' m c', .int .i64 z]) ∧ Bytes w2 (.slice a m c) bs ∧ Bytes w2 (.slice a' m c') bs ∧ m ≤ 1000000 ∧ Fin B i f q A C w w2 := by
  have hnM : name.size ≤ maxLen := Nat.le_trans hn (by unfold maxLen; omega)
  refine read_rep A f d name at' n w hm.rep (hi.num (by omega)) hnM b1 b2 _ (fun z w1 e1 hr ht => ?_) (fun e1 hf w1 hr ht => ?_) (fun e1 g x w1 a m c hf hx ho hrow hr ht => ?_)
  · refine ⟨none, 0, 0, z, [], rfl, ht.ofA, ?_⟩
    obtain ⟨h1, h2, h3⟩ := hi.stop e1
    cases hgd : Disk.right name at' n with
    | false =>
      rw [hgd] at e1 hr
      have ez : z = 2 := by
        have : some (2 : Int) = some z := e1
        simpa using this.symm
      subst ez
      refine (rread_bad q name at' n w1 hn hgd).mono ?_
      rintro e w2 ⟨rfl, rfl⟩
      obtain ⟨A', hm1, k1⟩ := hm.code hB ht hr
      exact ⟨none, 0, rfl, nothing _ _ _, nothing _ _ _, by omega, ht.ofA, rho, _, r, A', C, hm1, hi.mono (by omega), fun k hk h => h.imp (k1 k hk) id⟩
    | true =>
      rw [hgd] at h1 hr h3
      have hgood := hgd
      unfold Disk.right at hgood
      rw [Bool.and_eq_true, Bool.and_eq_true, decide_eq_true_eq, decide_eq_true_eq] at hgood
      obtain ⟨N, rfl⟩ := Int.eq_ofNat_of_zero_le hgood.2
      obtain ⟨T, rfl⟩ := Int.eq_ofNat_of_zero_le hgood.1.2
      refine rread_rep C q r _ z name T N w1 (hm.rrepAt ht) (hi.rnum (by omega)) (h3.rnum (by omega)) hn hgood.1.1 (by omega) (by omega) h1 _ (fun _ w2 hr2 ht2 => ⟨none, 0, rfl, nothing _ _ _, nothing _ _ _, by omega, fin_cd hm hB ht hr ht2 hr2 (h3.mono (by omega))⟩) (fun e => absurd e h2) (fun e => absurd e h2)
  · refine ⟨none, 0, 0, 6, [], rfl, ht.ofA, ?_⟩
    obtain ⟨h1, h3⟩ := hi.pass e1
    have hgd := guard_right e1
    rw [hgd] at h1
    have hgood := hgd
    unfold Disk.right at hgood
    rw [Bool.and_eq_true, Bool.and_eq_true, decide_eq_true_eq, decide_eq_true_eq] at hgood
    obtain ⟨N, rfl⟩ := Int.eq_ofNat_of_zero_le hgood.2
    obtain ⟨T, rfl⟩ := Int.eq_ofNat_of_zero_le hgood.1.2
    have hl := h3.noneR (s := name) hf
    refine rread_rep C q r _ 0 name T N w1 (hm.rrepAt ht) (hi.rnum (by omega)) (h3.rnum (by omega)) hn hgood.1.1 (by omega) (by omega) h1 _ (fun e => absurd rfl e) (fun _ _ w2 hr2 ht2 => ⟨none, 0, rfl, nothing _ _ _, nothing _ _ _, by omega, fin_cd hm hB ht hr ht2 hr2 (h3.mono (by omega))⟩) (fun _ g' x' w2 a' m' c' hno => by rw [hl] at hno; cases hno)
  · obtain ⟨h1, h3⟩ := hi.pass e1
    have hgd := guard_right e1
    rw [hgd] at h1
    have hgood := hgd
    unfold Disk.right at hgood
    rw [Bool.and_eq_true, Bool.and_eq_true, decide_eq_true_eq, decide_eq_true_eq] at hgood
    obtain ⟨N, rfl⟩ := Int.eq_ofNat_of_zero_le hgood.2
    obtain ⟨T, rfl⟩ := Int.eq_ofNat_of_zero_le hgood.1.2
    obtain ⟨hl, hl2⟩ := h3.fileR (s := name) hf hx
    refine ⟨a, m, c, 0, readOf x.bytes T N, rfl, ht.ofA, ?_⟩
    refine rread_rep C q r _ 0 name T N w1 (hm.rrepAt ht) (hi.rnum (by omega)) (h3.rnum (by omega)) hn hgood.1.1 (by omega) (by omega) h1 _ (fun e => absurd rfl e) (fun _ hno => by rw [hl] at hno; cases hno) (fun _ g' x' w2 a' m' c' h4 h5 ho2 hrow2 hr2 ht2 => ?_)
    rw [hl] at h4; cases h4
    rw [hl2] at h5; cases h5
    have hm1 := ho.bytes.len
    have hm2 := ho2.bytes.len
    have e : m' = m := by rw [hm1, hm2]; rfl
    subst e
    have hlen : m' ≤ x.bytes.length := by
      rw [hm2]
      unfold readOf
      rw [List.length_take, List.length_drop]
      omega
    have hxb := (hi.bytes g x hx).1
    refine ⟨a', c', rfl, (ho.keep ht2 fun k hk hc => ?_).bytes, ho2.bytes, by omega, fin_cd hm hB ht (hr.grown w) ht2 (hr2.grown w1) (h3.mono (by omega))⟩
    have h6 := hrow k hk
    have h7 := (hm.lc k hc).2
    omega
theorem crash_pair (hm : Mem2 B f q w d r A C) (hB : B ≤ w.heap.size) (hi : Inv i rho d r) (hb : i ≤ 900) (dir : Int) (d1 : dir ≤ 9223372036854775807) (d2 : -9223372036854775808 ≤ dir) (ka : Option Addr) (kn kc : Nat) (ks : List Int) (hI : Ints w ka kn ks) (hIa : ∀ a o, ka = some ⟨a, o, none⟩ → 0 < kn → a < w.heap.size) (hks : ∀ z, z ∈ ks → z ≤ 9223372036854775807 ∧ -9223372036854775808 ≤ z) :
    Calls Try.prog 64 #[.pointer (some ⟨q, 0, none⟩), .int .i64 dir, .slice ka kn kc] w fun e w1 => (∃ v, e = .returned v) ∧ Turns C w w1 ∧
      ∀ w1' ka' kc', Turns (fun _ => False) w1 w1' → Ints w1' ka' kn ks → (∀ p o, ka' = some ⟨p, o, none⟩ → ¬ A p) → Calls Try.prog 11 #[.pointer (some ⟨f, 0, none⟩), .int .i64 dir, .slice ka' kn kc'] w1' fun e2 w2 => e2 = .returned (.int .i64 0) ∧ Fin B i f q A C w w2 := by
  have hks' : ∀ k, -9223372036854775808 ≤ ks.getD k 0 ∧ ks.getD k 0 ≤ 9223372036854775807 := fun k => by
    rw [List.getD_eq_getElem?_getD]
    cases e : ks[k]? with
    | none => exact ⟨by simp, by simp⟩
    | some z => exact ⟨(hks z (List.mem_of_getElem? e)).2, (hks z (List.mem_of_getElem? e)).1⟩
  refine rcrash_rep C q r dir ka kn kc ks w hm.rrep (hi.rnum (by omega)) hI hIa hks' (Nat.le_trans (hi.rdir _) (by omega)) _ (fun gs w1 hlen hg hnd hr ht e => ⟨⟨e, rfl⟩, ht, fun w1' ka' kc' t hI' hA' => ?_⟩)
  obtain ⟨C', hm1, k1⟩ := hm.doc hB ht hr
  have hm2 := hm1.quiet t
  refine (crash_rep A f d dir ka' kn kc' ks w1' hm2.rep (hi.num (by omega)) d1 d2 hI' hks hA').mono ?_
  rintro e2 w2 ⟨rfl, hr2, ht2⟩
  obtain ⟨A', hm3, k2⟩ := hm2.code (Nat.le_trans hB (Nat.le_trans ht.size t.size)) ht2 hr2
  exact ⟨rfl, (ht.ofC.trans (t.mono fun _ _ x => x.elim)).trans ht2.ofA, _, _, _, A', C', hm3, (hi.crashed (by omega) dir ks gs hlen (fun j p hj => ⟨(hg j p hj).1, (hg j p hj).2.2⟩) hnd).mono (by omega), fun k hk h => h.imp (k2 k (Nat.lt_of_lt_of_le hk (Nat.le_trans ht.size t.size))) (k1 k hk)⟩
end
end Go.Proofs.Ytefjljdgdoklmaa

/-
  Pick: a number from 0 on, by any number.
-/
namespace Go.Proofs.Ytefjljdgdoklmaa
open Go.RowKit Go.Maps Go.Sort
/-- The number that is picked. -/
def pickZ (n m : Int) : Int := if n.tmod m < 0 then n.tmod m + m else n.tmod m
theorem pickZ_le (n : Int) : 0 ≤ pickZ n 12 ∧ pickZ n 12 < 12 := by
  unfold pickZ
  have h1 := Int.tmod_lt_of_pos n (show (0 : Int) < 12 by omega)
  have h2 : -12 < n.tmod 12 := by
    have := Int.lt_tmod_of_pos n (show (0 : Int) < 12 by omega)
    omega
  split <;> omega
set_option maxRecDepth 100000 in
set_option maxHeartbeats 4000000 in
theorem pick_any (n : Int) (w : World) : Calls Try.prog 55 #[.int .i64 n, .int .i64 12] w fun e w' => e = .returned (.int .i64 (pickZ n 12)) ∧ w' = w := by
  have h1 := Int.tmod_lt_of_pos n (show (0 : Int) < 12 by omega)
  have h2 : -12 < n.tmod 12 := by
    have := Int.lt_tmod_of_pos n (show (0 : Int) < 12 by omega)
    omega
  go_enter Try.func55, Try.ntmps55
  go_wp2_with fail
  · go_ret
    refine ⟨?_, rfl⟩
    unfold pickZ
    rw [if_pos ‹_›]
    rfl
  · go_ret
    refine ⟨?_, rfl⟩
    unfold pickZ
    rw [if_neg (by omega)]
    rfl
end Go.Proofs.Ytefjljdgdoklmaa

/-
  A call of both file systems, as the law makes it: what all of them share.
-/
namespace Go.Proofs.Ytefjljdgdoklmaa
open Go.RowKit Go.Maps Go.Sort
theorem fin_from {B i f q : Nat} {A C : Nat → Prop} {w w0 w2 : World} (t : Turns (AC A C) w w0) (h : Fin B i f q A C w0 w2) : Fin B i f q A C w w2 := by
  obtain ⟨h0, rho, d, r, A', C', h1, h2, h3⟩ := h
  exact ⟨t.trans h0, rho, d, r, A', C', h1, h2, fun k hk x => h3 k (Nat.lt_of_lt_of_le hk t.size) x⟩
theorem Mem2.alone {B f q : Nat} {w : World} {d : Disk} {r : RDisk} {A C : Nat → Prop} (h : Mem2 B f q w d r A C) : ¬ AC A C w.heap.size := fun x => by
  rcases x with x | x
  · have := (h.la _ x).2; omega
  · have := (h.lc _ x).2; omega
end Go.Proofs.Ytefjljdgdoklmaa

/-
  A call of both file systems, as the law makes it: Create, Sync, Remove, Rename, Fault.
-/
namespace Go.Proofs.Ytefjljdgdoklmaa
open Go.RowKit Go.Maps Go.Sort
section
variable {B i f q : Nat} {w : World} {d : Disk} {r : RDisk} {A C : Nat → Prop} {rho : Nat → Nat}
set_option maxRecDepth 100000 in
set_option maxHeartbeats 4000000 in
theorem act_0 (hm : Mem2 B f q w d r A C) (hB : B ≤ w.heap.size) (hi : Inv i rho d r) (hb : i ≤ 900) (kind N M E : Int) (s t : ByteArray) (ba ka : Option Addr) (bn bc kn kc : Nat) (hs : s.size ≤ 300) (hp : pickZ kind 12 = 0) :
    Calls Try.prog 25 #[.pointer (some ⟨f, 0, none⟩), .pointer (some ⟨q, 0, none⟩), .agg #[.int .i64 kind, .string s, .string t, .slice ba bn bc, .int .i64 N, .int .i64 M, .int .i64 E, .slice ka kn kc]] w fun e w' => e = .returned (.bool true) ∧ Fin B i f q A C w w' := by
  have hrow : (w.alloc (.cells #[.int .i64 kind, .string s, .string t, .slice ba bn bc, .int .i64 N, .int .i64 M, .int .i64 E, .slice ka kn kc] 49)).heap[w.heap.size]? = some (.cells #[.int .i64 kind, .string s, .string t, .slice ba bn bc, .int .i64 N, .int .i64 M, .int .i64 E, .slice ka kn kc] 49 (0, 0)) := heap_alloc_new w _
  have HR := hide hrow
  have HG := hide hm.alone
  have HT := hide ((Turns.refl (AC A C) w).alloc (.cells #[.int .i64 kind, .string s, .string t, .slice ba bn bc, .int .i64 N, .int .i64 M, .int .i64 E, .slice ka kn kc] 49))
  have HM := hide (hm.quiet ((Turns.refl _ w).alloc (.cells #[.int .i64 kind, .string s, .string t, .slice ba bn bc, .int .i64 N, .int .i64 M, .int .i64 E, .slice ka kn kc] 49)))
  have HB := hide hB
  have HP := hide hp
  have HS0 := hide hm.la
  have HS1 := hide hm.lc
  clear hrow hm hp hB
  go_enter Try.func25, Try.ntmps25
  go_wp2_with fail
  have hsz : (w.alloc (.cells #[.int .i64 kind, .string s, .string t, .slice ba bn bc, .int .i64 N, .int .i64 M, .int .i64 E, .slice ka kn kc] 49)).heap.size = w.heap.size + 1 := by simp
  have HB1 := hide (show B ≤ (w.alloc (.cells #[.int .i64 kind, .string s, .string t, .slice ba bn bc, .int .i64 N, .int .i64 M, .int .i64 E, .slice ka kn kc] 49)).heap.size by rw [hsz]; have := HB.out; omega)
  clear hsz
  generalize hw0 : (w.alloc (.cells #[.int .i64 kind, .string s, .string t, .slice ba bn bc, .int .i64 N, .int .i64 M, .int .i64 E, .slice ka kn kc] 49)) = w0 at *
  generalize hg0 : w.heap.size = g at *
  clear hw0
  refine (pick_any kind w0).mono ?_
  rintro e w1 ⟨rfl, hw1⟩
  subst hw1
  rw [HP.out]
  have a1 : w1.cell? ⟨g, 1, none⟩ = some (.string s) := cell_of_row w1 g 1 _ 49 (0, 0) HR.out
  have TD := hide ((Turns.refl (fun _ => False) w1).drew)
  have HC := hide (create_pair (HM.out.quiet TD.out) (Nat.le_trans HB1.out TD.out.size) hi hb s hs)
  go_wp2_with fail
  go_region_held (fun w' => w'.cell? ⟨g, 1, none⟩ = some (.string s)) (first | (with_reducible exact h1) | (with_reducible exact f1) | (simp only [World.cell?_drew]; with_reducible exact a1)) (first
    | (go_at_call 9; refine HC.out.mono ?_; rintro e w2 ⟨z, rfl, t2, c2⟩; have f1 := t2.cell (p := ⟨g, 1, none⟩) (v := .string s) a1 HG.out; have T2 := hide t2; have C2 := hide c2; clear t2 c2)
    | (go_at_call 56; refine C2.out.mono ?_; rintro e w3 ⟨rfl, c3⟩; have h1 := c3.1.cell (p := ⟨g, 1, none⟩) (v := .string s) a1 HG.out; have C3 := hide c3; clear c3))
  go_wp2_with fail
  go_ret
  exact ⟨by simp, fin_from HT.out (fin_from (TD.out.mono fun _ _ x => x.elim) C3.out)⟩
set_option maxRecDepth 100000 in
set_option maxHeartbeats 4000000 in
theorem act_2 (hm : Mem2 B f q w d r A C) (hB : B ≤ w.heap.size) (hi : Inv i rho d r) (hb : i ≤ 900) (kind N M E : Int) (s t : ByteArray) (ba ka : Option Addr) (bn bc kn kc : Nat) (hs : s.size ≤ 300) (hp : pickZ kind 12 = 2) :
    Calls Try.prog 25 #[.pointer (some ⟨f, 0, none⟩), .pointer (some ⟨q, 0, none⟩), .agg #[.int .i64 kind, .string s, .string t, .slice ba bn bc, .int .i64 N, .int .i64 M, .int .i64 E, .slice ka kn kc]] w fun e w' => e = .returned (.bool true) ∧ Fin B i f q A C w w' := by
  have hrow : (w.alloc (.cells #[.int .i64 kind, .string s, .string t, .slice ba bn bc, .int .i64 N, .int .i64 M, .int .i64 E, .slice ka kn kc] 49)).heap[w.heap.size]? = some (.cells #[.int .i64 kind, .string s, .string t, .slice ba bn bc, .int .i64 N, .int .i64 M, .int .i64 E, .slice ka kn kc] 49 (0, 0)) := heap_alloc_new w _
  have HR := hide hrow
  have HG := hide hm.alone
  have HT := hide ((Turns.refl (AC A C) w).alloc (.cells #[.int .i64 kind, .string s, .string t, .slice ba bn bc, .int .i64 N, .int .i64 M, .int .i64 E, .slice ka kn kc] 49))
  have HM := hide (hm.quiet ((Turns.refl _ w).alloc (.cells #[.int .i64 kind, .string s, .string t, .slice ba bn bc, .int .i64 N, .int .i64 M, .int .i64 E, .slice ka kn kc] 49)))
  have HB := hide hB
  have HP := hide hp
  have HS0 := hide hm.la
  have HS1 := hide hm.lc
  clear hrow hm hp hB
  go_enter Try.func25, Try.ntmps25
  go_wp2_with fail
  have hsz : (w.alloc (.cells #[.int .i64 kind, .string s, .string t, .slice ba bn bc, .int .i64 N, .int .i64 M, .int .i64 E, .slice ka kn kc] 49)).heap.size = w.heap.size + 1 := by simp
  have HB1 := hide (show B ≤ (w.alloc (.cells #[.int .i64 kind, .string s, .string t, .slice ba bn bc, .int .i64 N, .int .i64 M, .int .i64 E, .slice ka kn kc] 49)).heap.size by rw [hsz]; have := HB.out; omega)
  clear hsz
  generalize hw0 : (w.alloc (.cells #[.int .i64 kind, .string s, .string t, .slice ba bn bc, .int .i64 N, .int .i64 M, .int .i64 E, .slice ka kn kc] 49)) = w0 at *
  generalize hg0 : w.heap.size = g at *
  clear hw0
  refine (pick_any kind w0).mono ?_
  rintro e w1 ⟨rfl, hw1⟩
  subst hw1
  rw [HP.out]
  have a1 : w1.cell? ⟨g, 1, none⟩ = some (.string s) := cell_of_row w1 g 1 _ 49 (0, 0) HR.out
  have TD := hide ((Turns.refl (fun _ => False) w1).drew)
  have HC := hide (sync_pair (HM.out.quiet TD.out) (Nat.le_trans HB1.out TD.out.size) hi hb s hs)
  go_wp2_with fail
  go_region_held (fun w' => w'.cell? ⟨g, 1, none⟩ = some (.string s)) (first | (with_reducible exact h1) | (with_reducible exact f1) | (simp only [World.cell?_drew]; with_reducible exact a1)) (first
    | (go_at_call 14; refine HC.out.mono ?_; rintro e w2 ⟨z, rfl, t2, c2⟩; have f1 := t2.cell (p := ⟨g, 1, none⟩) (v := .string s) a1 HG.out; have T2 := hide t2; have C2 := hide c2; clear t2 c2)
    | (go_at_call 57; refine C2.out.mono ?_; rintro e w3 ⟨rfl, c3⟩; have h1 := c3.1.cell (p := ⟨g, 1, none⟩) (v := .string s) a1 HG.out; have C3 := hide c3; clear c3))
  go_wp2_with fail
  go_ret
  exact ⟨by simp, fin_from HT.out (fin_from (TD.out.mono fun _ _ x => x.elim) C3.out)⟩
set_option maxRecDepth 100000 in
set_option maxHeartbeats 4000000 in
theorem act_5 (hm : Mem2 B f q w d r A C) (hB : B ≤ w.heap.size) (hi : Inv i rho d r) (hb : i ≤ 900) (kind N M E : Int) (s t : ByteArray) (ba ka : Option Addr) (bn bc kn kc : Nat) (hs : s.size ≤ 300) (hp : pickZ kind 12 = 5) :
    Calls Try.prog 25 #[.pointer (some ⟨f, 0, none⟩), .pointer (some ⟨q, 0, none⟩), .agg #[.int .i64 kind, .string s, .string t, .slice ba bn bc, .int .i64 N, .int .i64 M, .int .i64 E, .slice ka kn kc]] w fun e w' => e = .returned (.bool true) ∧ Fin B i f q A C w w' := by
  have hrow : (w.alloc (.cells #[.int .i64 kind, .string s, .string t, .slice ba bn bc, .int .i64 N, .int .i64 M, .int .i64 E, .slice ka kn kc] 49)).heap[w.heap.size]? = some (.cells #[.int .i64 kind, .string s, .string t, .slice ba bn bc, .int .i64 N, .int .i64 M, .int .i64 E, .slice ka kn kc] 49 (0, 0)) := heap_alloc_new w _
  have HR := hide hrow
  have HG := hide hm.alone
  have HT := hide ((Turns.refl (AC A C) w).alloc (.cells #[.int .i64 kind, .string s, .string t, .slice ba bn bc, .int .i64 N, .int .i64 M, .int .i64 E, .slice ka kn kc] 49))
  have HM := hide (hm.quiet ((Turns.refl _ w).alloc (.cells #[.int .i64 kind, .string s, .string t, .slice ba bn bc, .int .i64 N, .int .i64 M, .int .i64 E, .slice ka kn kc] 49)))
  have HB := hide hB
  have HP := hide hp
  have HS0 := hide hm.la
  have HS1 := hide hm.lc
  clear hrow hm hp hB
  go_enter Try.func25, Try.ntmps25
  go_wp2_with fail
  have hsz : (w.alloc (.cells #[.int .i64 kind, .string s, .string t, .slice ba bn bc, .int .i64 N, .int .i64 M, .int .i64 E, .slice ka kn kc] 49)).heap.size = w.heap.size + 1 := by simp
  have HB1 := hide (show B ≤ (w.alloc (.cells #[.int .i64 kind, .string s, .string t, .slice ba bn bc, .int .i64 N, .int .i64 M, .int .i64 E, .slice ka kn kc] 49)).heap.size by rw [hsz]; have := HB.out; omega)
  clear hsz
  generalize hw0 : (w.alloc (.cells #[.int .i64 kind, .string s, .string t, .slice ba bn bc, .int .i64 N, .int .i64 M, .int .i64 E, .slice ka kn kc] 49)) = w0 at *
  generalize hg0 : w.heap.size = g at *
  clear hw0
  refine (pick_any kind w0).mono ?_
  rintro e w1 ⟨rfl, hw1⟩
  subst hw1
  rw [HP.out]
  have a1 : w1.cell? ⟨g, 1, none⟩ = some (.string s) := cell_of_row w1 g 1 _ 49 (0, 0) HR.out
  have TD := hide ((Turns.refl (fun _ => False) w1).drew)
  have HC := hide (remove_pair (HM.out.quiet TD.out) (Nat.le_trans HB1.out TD.out.size) hi hb s hs)
  go_wp2_with fail
  go_region_held (fun w' => w'.cell? ⟨g, 1, none⟩ = some (.string s)) (first | (with_reducible exact h1) | (with_reducible exact f1) | (simp only [World.cell?_drew]; with_reducible exact a1)) (first
    | (go_at_call 29; refine HC.out.mono ?_; rintro e w2 ⟨z, rfl, t2, c2⟩; have f1 := t2.cell (p := ⟨g, 1, none⟩) (v := .string s) a1 HG.out; have T2 := hide t2; have C2 := hide c2; clear t2 c2)
    | (go_at_call 60; refine C2.out.mono ?_; rintro e w3 ⟨rfl, c3⟩; have h1 := c3.1.cell (p := ⟨g, 1, none⟩) (v := .string s) a1 HG.out; have C3 := hide c3; clear c3))
  go_wp2_with fail
  go_ret
  exact ⟨by simp, fin_from HT.out (fin_from (TD.out.mono fun _ _ x => x.elim) C3.out)⟩
end
end Go.Proofs.Ytefjljdgdoklmaa
