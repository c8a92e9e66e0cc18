import Derived.Test.YtefjljdgdoklmaaM33
import Derived.Test.YtefjljdgdoklmaaM34
import Derived.Deep.RegionHeld
import Derived.Test.YtefjljdgdoklmaaM14
import Derived.Test.YtefjljdgdoklmaaM35
/-
  A call of both file systems, as the law makes it: Append.
-/
namespace Go.Proofs.Ytefjljdgdoklmaa
open Go.RowKit Go.Maps Go.Sort
section
variable {B i f q : Nat} {w : World} {d : Disk} {r : RDisk} {A C : Nat → Prop} {rho : Nat → Nat}
set_option maxRecDepth 100000 in
set_option maxHeartbeats 4000000 in
theorem act_1 (hm : Mem2 B f q w d r A C) (hB : B ≤ w.heap.size) (hi : Inv i rho d r) (hb : i ≤ 900) (kind N M E : Int) (s t : ByteArray) (ba ka : Option Addr) (bn bc kn kc : Nat) (hs : s.size ≤ 300) (bs : List (BitVec 8)) (hw : Bytes w (.slice ba bn bc) bs) (hba : ∀ p o, ba = some ⟨p, o, none⟩ → 0 < bn → p < B) (hbn : bn ≤ 300) (hp : pickZ kind 12 = 1) :
    Calls Try.prog 25 #[.pointer (some ⟨f, 0, none⟩), .pointer (some ⟨q, 0, none⟩), .agg #[.int .i64 kind, .string s, .string t, .slice ba bn bc, .int .i64 N, .int .i64 M, .int .i64 E, .slice ka kn kc]] w fun e w' => e = .returned (.bool true) ∧ Fin B i f q A C w w' := by
  have hrow : (w.alloc (.cells #[.int .i64 kind, .string s, .string t, .slice ba bn bc, .int .i64 N, .int .i64 M, .int .i64 E, .slice ka kn kc] 49)).heap[w.heap.size]? = some (.cells #[.int .i64 kind, .string s, .string t, .slice ba bn bc, .int .i64 N, .int .i64 M, .int .i64 E, .slice ka kn kc] 49 (0, 0)) := heap_alloc_new w _
  have HR := hide hrow
  have HG := hide hm.alone
  have HT := hide ((Turns.refl (AC A C) w).alloc (.cells #[.int .i64 kind, .string s, .string t, .slice ba bn bc, .int .i64 N, .int .i64 M, .int .i64 E, .slice ka kn kc] 49))
  have HM := hide (hm.quiet ((Turns.refl _ w).alloc (.cells #[.int .i64 kind, .string s, .string t, .slice ba bn bc, .int .i64 N, .int .i64 M, .int .i64 E, .slice ka kn kc] 49)))
  have HB := hide hB
  have HP := hide hp
  have HS0 := hide hm.la
  have HS1 := hide hm.lc
  have HW := hide (hw.keep ((Turns.refl (fun _ => False) w).alloc (.cells #[.int .i64 kind, .string s, .string t, .slice ba bn bc, .int .i64 N, .int .i64 M, .int .i64 E, .slice ka kn kc] 49)) (fun _ _ _ x => x))
  clear hrow hm hp hB hw
  go_enter Try.func25, Try.ntmps25
  go_wp2_with fail
  have hsz : (w.alloc (.cells #[.int .i64 kind, .string s, .string t, .slice ba bn bc, .int .i64 N, .int .i64 M, .int .i64 E, .slice ka kn kc] 49)).heap.size = w.heap.size + 1 := by simp
  have HB1 := hide (show B ≤ (w.alloc (.cells #[.int .i64 kind, .string s, .string t, .slice ba bn bc, .int .i64 N, .int .i64 M, .int .i64 E, .slice ka kn kc] 49)).heap.size by rw [hsz]; have := HB.out; omega)
  clear hsz
  generalize hw0 : (w.alloc (.cells #[.int .i64 kind, .string s, .string t, .slice ba bn bc, .int .i64 N, .int .i64 M, .int .i64 E, .slice ka kn kc] 49)) = w0 at *
  generalize hg0 : w.heap.size = g at *
  clear hw0
  refine (pick_any kind w0).mono ?_
  rintro e w1 ⟨rfl, hw1⟩
  subst hw1
  rw [HP.out]
  have a1 : w1.cell? ⟨g, 1, none⟩ = some (.string s) := cell_of_row w1 g 1 _ 49 (0, 0) HR.out
  have a3 : w1.cell? ⟨g, 3, none⟩ = some (.slice ba bn bc) := cell_of_row w1 g 3 _ 49 (0, 0) HR.out
  have HO := hide (own_any _ bs w1 HW.out (by have := HW.out.len; omega))
  go_wp2_with fail
  refine HO.out.mono ?_
  rintro e w2 ⟨go, co, rfl, hgo, hco, row, b2⟩
  have hnl := HW.out.len
  have TB := hide (Turns.of_below b2 (fun _ => False))
  have a1 := TB.out.cell a1 (fun x => x)
  have a3 := TB.out.cell a3 (fun x => x)
  have hgs : g < w1.heap.size := lt_of_heap HR.out
  have ROW := hide row
  have HL := hide hnl
  rw [← hnl]
  have hoA : ∀ p o, (some ⟨go, 0, none⟩ : Option Addr) = some ⟨p, o, none⟩ → ¬ A p ∧ ¬ C p := fun p o e => by
    cases e
    exact ⟨fun x => by have := (HS0.out _ x).2; omega, fun x => by have := (HS1.out _ x).2; omega⟩
  have hbA : ∀ p o, ba = some ⟨p, o, none⟩ → 0 < bn → ¬ A p ∧ ¬ C p := fun p o e h0 => ⟨fun x => by have := (HS0.out _ x).1; have := hba p o e h0; omega, fun x => by have := (HS1.out _ x).1; have := hba p o e h0; omega⟩
  have TD := hide (TB.out.drew)
  have HC := hide (append_pair (HM.out.quiet TD.out) (Nat.le_trans HB1.out TD.out.size) hi hb s hs (some ⟨go, 0, none⟩) ba bn co bc bs (RowB.bytes (w := w2.drew) ROW.out hnl) (HW.out.keep TD.out (fun _ _ _ x => x)) hbn hoA hbA)
  have hgo0 : ¬ AC A C go := fun x => by
    rcases x with x | x
    · exact (hoA go 0 rfl).1 x
    · exact (hoA go 0 rfl).2 x
  have HGO := hide hgo0
  have HCO := hide (show bn ≤ co by omega)
  have HLT := hide (show go < w2.heap.size by obtain ⟨cs, h1, _⟩ := row; exact lt_of_heap h1)
  have HGW := hide hgo
  clear row hnl hoA hbA hgo0 hgo hco b2 hgs hba
  go_wp2_with fail
  go_region_held (fun w' => w'.cell? ⟨g, 1, none⟩ = some (.string s) ∧ w'.cell? ⟨g, 3, none⟩ = some (.slice ba bn bc)) (first | (with_reducible exact ⟨h1, h3⟩) | (with_reducible exact ⟨f1, f3⟩) | (simp only [World.cell?_drew]; with_reducible exact ⟨a1, a3⟩)) (first
    | (go_at_call 10; refine HC.out.mono ?_; rintro e w3 ⟨z, rfl, t2, c2⟩; have f1 := t2.cell (p := ⟨g, 1, none⟩) (v := .string s) a1 HG.out; have f3 := t2.cell (p := ⟨g, 3, none⟩) (v := .slice ba bn bc) a3 HG.out; have T2 := hide t2; have C2 := hide c2; clear t2 c2)
    | (go_at_call 66; refine C2.out.mono ?_; rintro e w4 ⟨rfl, c3⟩; have h1 := c3.1.cell (p := ⟨g, 1, none⟩) (v := .string s) a1 HG.out; have h3 := c3.1.cell (p := ⟨g, 3, none⟩) (v := .slice ba bn bc) a3 HG.out; have C3 := hide c3; clear c3))
  clear h1 h3 f1 f3 a1 a3
  go_wp2_with fail
  obtain ⟨cs0, r1, r2, r3⟩ := ROW.out
  have R4 := hide (C3.out.1.heap (k := go) r1 HGO.out)
  have R2 := hide r2
  clear r1 r2 r3
  go_loopw [13] (fun iv wr => ∃ j : Nat, iv = .int .i64 (j : Nat) ∧ j ≤ bn ∧ Turns (fun k => k = go) w4 wr ∧ ∃ cs, wr.heap[go]? = some (.cells cs 5 (0, 0)) ∧ co ≤ cs.size) (fun iv _ => bn - (intOf iv).toNat)
  case atStart => exact ⟨0, rfl, by omega, Turns.refl _ _, cs0, R4.out, R2.out⟩
  case round =>
    obtain ⟨j, rfl, hj, ht, cs, hc, hcs⟩ := hrel
    have HTR := hide ht
    have HC5 := hide hc
    have HCS := hide hcs
    clear ht hc hcs
    by_cases hj2 : j < bn
    · have i1 : (j : Int) < bn := by omega
      have hjc : j < cs.size := by have := HCS.out; have := HCO.out; omega
      have x1 : wr.cell? ⟨go, j, none⟩ = some cs[j] := by rw [cell_of_row wr go j cs 5 (0, 0) HC5.out]; simp [hjc]
      have x2 : wr.frozen? ⟨go, j, none⟩ = false := frozen_of_row wr go j cs 5 HC5.out
      go_wp2_with fail
      go_roundw
      case rel =>
        have k6 := (Tick.refl HC5.out).set j (.int .u8 0)
        refine ⟨j + 1, by go_num, by omega, HTR.out.trans (Turns.of_tick k6), _, k6.1, by simpa using HCS.out⟩
      case measure =>
        simp [intOf]
        omega
    · have i1 : ¬ (j : Int) < bn := by omega
      go_wp2_with fail
      go_ret
      obtain ⟨u0, rho', d', r', A', C', u1, u2, u3⟩ := C3.out
      have hgo : ¬ AC A' C' go := fun x => HGO.out (u3 go (by have := HLT.out; exact this) x)
      refine ⟨by simp, fin_from HT.out ⟨?_, rho', d', r', A', C', ⟨u1.rep.keep HTR.out (fun k _ hk e => hgo (.inl (e ▸ hk))), u1.rrep.keep HTR.out (fun k _ hk e => hgo (.inr (e ▸ hk))), u1.apart, fun k hk => ⟨(u1.la k hk).1, Nat.lt_of_lt_of_le (u1.la k hk).2 HTR.out.size⟩, fun k hk => ⟨(u1.lc k hk).1, Nat.lt_of_lt_of_le (u1.lc k hk).2 HTR.out.size⟩⟩, u2, fun k hk x => u3 k (Nat.lt_of_lt_of_le hk TD.out.size) x⟩⟩
      refine Turns.andThen ((TD.out.mono fun _ _ x => x.elim).trans u0) HTR.out fun k hk e => ?_
      have := HGW.out
      omega
set_option maxRecDepth 100000 in
set_option maxHeartbeats 4000000 in
theorem act_11 (hm : Mem2 B f q w d r A C) (hB : B ≤ w.heap.size) (hi : Inv i rho d r) (hb : i ≤ 900) (kind N M E : Int) (s t : ByteArray) (ba ka : Option Addr) (bn bc kn kc : Nat) (hs : s.size ≤ 300) (bs : List (BitVec 8)) (hw : Bytes w (.slice ba bn bc) bs) (hba : ∀ p o, ba = some ⟨p, o, none⟩ → 0 < bn → p < B) (hbn : bn ≤ 300) (hp : pickZ kind 12 = 11) :
    Calls Try.prog 25 #[.pointer (some ⟨f, 0, none⟩), .pointer (some ⟨q, 0, none⟩), .agg #[.int .i64 kind, .string s, .string t, .slice ba bn bc, .int .i64 N, .int .i64 M, .int .i64 E, .slice ka kn kc]] w fun e w' => e = .returned (.bool true) ∧ Fin B i f q A C w w' := by
  have hrow : (w.alloc (.cells #[.int .i64 kind, .string s, .string t, .slice ba bn bc, .int .i64 N, .int .i64 M, .int .i64 E, .slice ka kn kc] 49)).heap[w.heap.size]? = some (.cells #[.int .i64 kind, .string s, .string t, .slice ba bn bc, .int .i64 N, .int .i64 M, .int .i64 E, .slice ka kn kc] 49 (0, 0)) := heap_alloc_new w _
  have HR := hide hrow
  have HG := hide hm.alone
  have HT := hide ((Turns.refl (AC A C) w).alloc (.cells #[.int .i64 kind, .string s, .string t, .slice ba bn bc, .int .i64 N, .int .i64 M, .int .i64 E, .slice ka kn kc] 49))
  have HM := hide (hm.quiet ((Turns.refl _ w).alloc (.cells #[.int .i64 kind, .string s, .string t, .slice ba bn bc, .int .i64 N, .int .i64 M, .int .i64 E, .slice ka kn kc] 49)))
  have HB := hide hB
  have HP := hide hp
  have HS0 := hide hm.la
  have HS1 := hide hm.lc
  have HW := hide (hw.keep ((Turns.refl (fun _ => False) w).alloc (.cells #[.int .i64 kind, .string s, .string t, .slice ba bn bc, .int .i64 N, .int .i64 M, .int .i64 E, .slice ka kn kc] 49)) (fun _ _ _ x => x))
  clear hrow hm hp hB hw
  go_enter Try.func25, Try.ntmps25
  go_wp2_with fail
  have hsz : (w.alloc (.cells #[.int .i64 kind, .string s, .string t, .slice ba bn bc, .int .i64 N, .int .i64 M, .int .i64 E, .slice ka kn kc] 49)).heap.size = w.heap.size + 1 := by simp
  have HB1 := hide (show B ≤ (w.alloc (.cells #[.int .i64 kind, .string s, .string t, .slice ba bn bc, .int .i64 N, .int .i64 M, .int .i64 E, .slice ka kn kc] 49)).heap.size by rw [hsz]; have := HB.out; omega)
  clear hsz
  generalize hw0 : (w.alloc (.cells #[.int .i64 kind, .string s, .string t, .slice ba bn bc, .int .i64 N, .int .i64 M, .int .i64 E, .slice ka kn kc] 49)) = w0 at *
  generalize hg0 : w.heap.size = g at *
  clear hw0
  refine (pick_any kind w0).mono ?_
  rintro e w1 ⟨rfl, hw1⟩
  subst hw1
  rw [HP.out]
  have a1 : w1.cell? ⟨g, 1, none⟩ = some (.string s) := cell_of_row w1 g 1 _ 49 (0, 0) HR.out
  have a3 : w1.cell? ⟨g, 3, none⟩ = some (.slice ba bn bc) := cell_of_row w1 g 3 _ 49 (0, 0) HR.out
  have HO := hide (own_any _ bs w1 HW.out (by have := HW.out.len; omega))
  go_wp2_with fail
  refine HO.out.mono ?_
  rintro e w2 ⟨go, co, rfl, hgo, hco, row, b2⟩
  have hnl := HW.out.len
  have TB := hide (Turns.of_below b2 (fun _ => False))
  have a1 := TB.out.cell a1 (fun x => x)
  have a3 := TB.out.cell a3 (fun x => x)
  have hgs : g < w1.heap.size := lt_of_heap HR.out
  have ROW := hide row
  have HL := hide hnl
  rw [← hnl]
  have hoA : ∀ p o, (some ⟨go, 0, none⟩ : Option Addr) = some ⟨p, o, none⟩ → ¬ A p ∧ ¬ C p := fun p o e => by
    cases e
    exact ⟨fun x => by have := (HS0.out _ x).2; omega, fun x => by have := (HS1.out _ x).2; omega⟩
  have hbA : ∀ p o, ba = some ⟨p, o, none⟩ → 0 < bn → ¬ A p ∧ ¬ C p := fun p o e h0 => ⟨fun x => by have := (HS0.out _ x).1; have := hba p o e h0; omega, fun x => by have := (HS1.out _ x).1; have := hba p o e h0; omega⟩
  have TD := hide (TB.out.drew)
  have HC := hide (append_pair (HM.out.quiet TD.out) (Nat.le_trans HB1.out TD.out.size) hi hb s hs (some ⟨go, 0, none⟩) ba bn co bc bs (RowB.bytes (w := w2.drew) ROW.out hnl) (HW.out.keep TD.out (fun _ _ _ x => x)) hbn hoA hbA)
  have hgo0 : ¬ AC A C go := fun x => by
    rcases x with x | x
    · exact (hoA go 0 rfl).1 x
    · exact (hoA go 0 rfl).2 x
  have HGO := hide hgo0
  have HCO := hide (show bn ≤ co by omega)
  have HLT := hide (show go < w2.heap.size by obtain ⟨cs, h1, _⟩ := row; exact lt_of_heap h1)
  have HGW := hide hgo
  clear row hnl hoA hbA hgo0 hgo hco b2 hgs hba
  go_wp2_with fail
  go_region_held (fun w' => w'.cell? ⟨g, 1, none⟩ = some (.string s) ∧ w'.cell? ⟨g, 3, none⟩ = some (.slice ba bn bc)) (first | (with_reducible exact ⟨h1, h3⟩) | (with_reducible exact ⟨f1, f3⟩) | (simp only [World.cell?_drew]; with_reducible exact ⟨a1, a3⟩)) (first
    | (go_at_call 10; refine HC.out.mono ?_; rintro e w3 ⟨z, rfl, t2, c2⟩; have f1 := t2.cell (p := ⟨g, 1, none⟩) (v := .string s) a1 HG.out; have f3 := t2.cell (p := ⟨g, 3, none⟩) (v := .slice ba bn bc) a3 HG.out; have T2 := hide t2; have C2 := hide c2; clear t2 c2)
    | (go_at_call 66; refine C2.out.mono ?_; rintro e w4 ⟨rfl, c3⟩; have h1 := c3.1.cell (p := ⟨g, 1, none⟩) (v := .string s) a1 HG.out; have h3 := c3.1.cell (p := ⟨g, 3, none⟩) (v := .slice ba bn bc) a3 HG.out; have C3 := hide c3; clear c3))
  clear h1 h3 f1 f3 a1 a3
  go_wp2_with fail
  obtain ⟨cs0, r1, r2, r3⟩ := ROW.out
  have R4 := hide (C3.out.1.heap (k := go) r1 HGO.out)
  have R2 := hide r2
  clear r1 r2 r3
  go_loopw [13] (fun iv wr => ∃ j : Nat, iv = .int .i64 (j : Nat) ∧ j ≤ bn ∧ Turns (fun k => k = go) w4 wr ∧ ∃ cs, wr.heap[go]? = some (.cells cs 5 (0, 0)) ∧ co ≤ cs.size) (fun iv _ => bn - (intOf iv).toNat)
  case atStart => exact ⟨0, rfl, by omega, Turns.refl _ _, cs0, R4.out, R2.out⟩
  case round =>
    obtain ⟨j, rfl, hj, ht, cs, hc, hcs⟩ := hrel
    have HTR := hide ht
    have HC5 := hide hc
    have HCS := hide hcs
    clear ht hc hcs
    by_cases hj2 : j < bn
    · have i1 : (j : Int) < bn := by omega
      have hjc : j < cs.size := by have := HCS.out; have := HCO.out; omega
      have x1 : wr.cell? ⟨go, j, none⟩ = some cs[j] := by rw [cell_of_row wr go j cs 5 (0, 0) HC5.out]; simp [hjc]
      have x2 : wr.frozen? ⟨go, j, none⟩ = false := frozen_of_row wr go j cs 5 HC5.out
      go_wp2_with fail
      go_roundw
      case rel =>
        have k6 := (Tick.refl HC5.out).set j (.int .u8 0)
        refine ⟨j + 1, by go_num, by omega, HTR.out.trans (Turns.of_tick k6), _, k6.1, by simpa using HCS.out⟩
      case measure =>
        simp [intOf]
        omega
    · have i1 : ¬ (j : Int) < bn := by omega
      go_wp2_with fail
      go_ret
      obtain ⟨u0, rho', d', r', A', C', u1, u2, u3⟩ := C3.out
      have hgo : ¬ AC A' C' go := fun x => HGO.out (u3 go (by have := HLT.out; exact this) x)
      refine ⟨by simp, fin_from HT.out ⟨?_, rho', d', r', A', C', ⟨u1.rep.keep HTR.out (fun k _ hk e => hgo (.inl (e ▸ hk))), u1.rrep.keep HTR.out (fun k _ hk e => hgo (.inr (e ▸ hk))), u1.apart, fun k hk => ⟨(u1.la k hk).1, Nat.lt_of_lt_of_le (u1.la k hk).2 HTR.out.size⟩, fun k hk => ⟨(u1.lc k hk).1, Nat.lt_of_lt_of_le (u1.lc k hk).2 HTR.out.size⟩⟩, u2, fun k hk x => u3 k (Nat.lt_of_lt_of_le hk TD.out.size) x⟩⟩
      refine Turns.andThen ((TD.out.mono fun _ _ x => x.elim).trans u0) HTR.out fun k hk e => ?_
      have := HGW.out
      omega
end
end Go.Proofs.Ytefjljdgdoklmaa

/-
  Is a script gone through?
-/
namespace Go.Proofs.Ytefjljdgdoklmaa
open Go.RowKit
def ActP.small (x : ActP) : Prop := x.bn ≤ 300 ∧ x.kn ≤ 80 ∧ x.s.size ≤ 300 ∧ x.t.size ≤ 300
def SmallSays (n : Nat) (l : List ActP) (w : World) (e : Ending) (w' : World) : Prop := ∃ b, e = .returned (.bool b) ∧ (b = true → n ≤ 80 ∧ ∀ x, x ∈ l → x.small) ∧ w' = w
set_option maxRecDepth 100000 in
set_option maxHeartbeats 4000000 in
theorem small_any (a : Option Addr) (n c : Nat) (l : List ActP) (w : World) (hl : n = l.length) (h : Acts0 w a l) :
    Calls Try.prog 23 #[.slice a n c] w (SmallSays n l w) := by
  have HL := hide hl
  have HA := hide h
  clear hl h
  go_enter Try.func23, Try.ntmps23
  by_cases hn : n ≤ 80
  · have i0 : ¬ (80 : Int) < n := by omega
    go_wp2_with fail
    go_loopw [3] (fun iv wr => ∃ k : Nat, iv = .int .i64 (k : Nat) ∧ k ≤ n ∧ wr = w ∧ ∀ x, x ∈ l.take k → x.small) (fun iv _ => n - (intOf iv).toNat)
    case atStart => exact ⟨0, rfl, by omega, rfl, fun x hx => by simp at hx⟩
    case round =>
      obtain ⟨k, rfl, hk, hw, hs⟩ := hrel
      subst hw
      have HS := hide hs
      clear hs
      by_cases hk2 : k < n
      · have i1 : (k : Int) < n := by omega
        have hkl : k < l.length := by have := HL.out; omega
        obtain ⟨⟨b, off, rfl, _, hc⟩, _⟩ := HA.out k l[k] (List.getElem?_eq_getElem hkl)
        have c3 := hc 3 _ rfl
        have c7 := hc 7 _ rfl
        have c1 := hc 1 _ rfl
        have c2 := hc 2 _ rfl
        have HTK := hide (List.take_succ_eq_append_getElem hkl)
        clear hc
        generalize l[k] = x at *
        obtain ⟨kind, N, M, E, s, t, ba, ka, bn, bc, kn, kc, bs, ks⟩ := x
        simp only at c3 c7 c1 c2
        by_cases q1 : bn ≤ 300
        · have j1 : ¬ (300 : Int) < bn := by omega
          by_cases q2 : kn ≤ 80
          · have j2 : ¬ (80 : Int) < kn := by omega
            by_cases q3 : s.size ≤ 300
            · have j3 : ¬ (300 : Int) < s.size := by omega
              by_cases q4 : t.size ≤ 300
              · have j4 : ¬ (300 : Int) < t.size := by omega
                go_wp2_with fail
                go_roundw
                case rel =>
                  refine ⟨k + 1, by go_num, by omega, by trivial, fun x hx => ?_⟩
                  rw [HTK.out, List.mem_append] at hx
                  rcases hx with hx | hx
                  · exact HS.out x hx
                  · obtain rfl := List.mem_singleton.1 hx
                    exact ⟨q1, q2, q3, q4⟩
                case measure =>
                  simp [intOf]
                  omega
              · have j4 : (300 : Int) < t.size := by omega
                go_wp2_with fail
                go_ret
                exact ⟨_, rfl, fun e => (by simp at e), rfl⟩
            · have j3 : (300 : Int) < s.size := by omega
              go_wp2_with fail
              go_ret
              exact ⟨_, rfl, fun e => (by simp at e), rfl⟩
          · have j2 : (80 : Int) < kn := by omega
            go_wp2_with fail
            go_ret
            exact ⟨_, rfl, fun e => (by simp at e), rfl⟩
        · have j1 : (300 : Int) < bn := by omega
          go_wp2_with fail
          go_ret
          exact ⟨_, rfl, fun e => (by simp at e), rfl⟩
      · have i1 : ¬ (k : Int) < n := by omega
        have he : k = n := by omega
        have HE := hide he
        clear he
        go_wp2_with fail
        go_ret
        refine ⟨_, rfl, fun _ => ⟨hn, fun x hx => HS.out x ?_⟩, rfl⟩
        rw [HE.out, HL.out, List.take_length]
        exact hx
  · have i0 : (80 : Int) < n := by omega
    go_wp2_with fail
    go_ret
    exact ⟨_, rfl, fun e => (by simp at e), rfl⟩
end Go.Proofs.Ytefjljdgdoklmaa

/-
  Any call of a script, of both file systems.
-/
namespace Go.Proofs.Ytefjljdgdoklmaa
open Go.RowKit Go.Maps Go.Sort
theorem act_any {B i f q : Nat} {w : World} {d : Disk} {r : RDisk} {A C : Nat → Prop} {rho : Nat → Nat} (hm : Mem2 B f q w d r A C) (hB : B ≤ w.heap.size) (hi : Inv i rho d r) (hb : i ≤ 900) (x : ActP) (hs : x.small) (hbs : Bytes w (.slice x.ba x.bn x.bc) x.bs) (hks : Ints w x.ka x.kn x.ks) (hn : -9223372036854775808 ≤ x.N ∧ x.N ≤ 9223372036854775807) (hmm : x.M ≤ 9223372036854775807) (he : ∀ z, z ∈ x.ks → z ≤ 9223372036854775807 ∧ -9223372036854775808 ≤ z)
    (hbb : ∀ p o, x.ba = some ⟨p, o, none⟩ → 0 < x.bn → p < B) (hkb : ∀ p o, x.ka = some ⟨p, o, none⟩ → 0 < x.kn → p < B) :
    Calls Try.prog 25 #[.pointer (some ⟨f, 0, none⟩), .pointer (some ⟨q, 0, none⟩), .agg #[.int .i64 x.kind, .string x.s, .string x.t, .slice x.ba x.bn x.bc, .int .i64 x.N, .int .i64 x.M, .int .i64 x.E, .slice x.ka x.kn x.kc]] w fun e w' => e = .returned (.bool true) ∧ Fin B i f q A C w w' := by
  obtain ⟨h1, h2, h3, h4⟩ := hs
  have hp := pickZ_le x.kind
  have : pickZ x.kind 12 = 0 ∨ pickZ x.kind 12 = 1 ∨ pickZ x.kind 12 = 2 ∨ pickZ x.kind 12 = 3 ∨ pickZ x.kind 12 = 4 ∨ pickZ x.kind 12 = 5 ∨ pickZ x.kind 12 = 6 ∨ pickZ x.kind 12 = 7 ∨ pickZ x.kind 12 = 8 ∨ pickZ x.kind 12 = 9 ∨ pickZ x.kind 12 = 10 ∨ pickZ x.kind 12 = 11 := by omega
  rcases this with e | e | e | e | e | e | e | e | e | e | e | e
  · exact act_0 hm hB hi hb x.kind x.N x.M x.E x.s x.t x.ba x.ka x.bn x.bc x.kn x.kc h3 e
  · exact act_1 hm hB hi hb x.kind x.N x.M x.E x.s x.t x.ba x.ka x.bn x.bc x.kn x.kc h3 x.bs hbs hbb h1 e
  · exact act_2 hm hB hi hb x.kind x.N x.M x.E x.s x.t x.ba x.ka x.bn x.bc x.kn x.kc h3 e
  · exact act_3 hm hB hi hb x.kind x.N x.M x.E x.s x.t x.ba x.ka x.bn x.bc x.kn x.kc  e
  · exact act_4 hm hB hi hb x.kind x.N x.M x.E x.s x.t x.ba x.ka x.bn x.bc x.kn x.kc h3 h4 e
  · exact act_5 hm hB hi hb x.kind x.N x.M x.E x.s x.t x.ba x.ka x.bn x.bc x.kn x.kc h3 e
  · exact act_6 hm hB hi hb x.kind x.N x.M x.E x.s x.t x.ba x.ka x.bn x.bc x.kn x.kc h3 hn.2 hmm e
  · exact act_7 hm hB hi x.kind x.N x.M x.E x.s x.t x.ba x.ka x.bn x.bc x.kn x.kc hn.2 e
  · exact act_8 hm hB hi x.kind x.N x.M x.E x.s x.t x.ba x.ka x.bn x.bc x.kn x.kc hn.2 e
  · exact act_9 hm hB hi hb x.kind x.N x.M x.E x.s x.t x.ba x.ka x.bn x.bc x.kn x.kc x.ks hks hkb he (by omega) hn.2 hn.1 e
  · exact act_10 hm hB hi hb x.kind x.N x.M x.E x.s x.t x.ba x.ka x.bn x.bc x.kn x.kc h3 e
  · exact act_11 hm hB hi hb x.kind x.N x.M x.E x.s x.t x.ba x.ka x.bn x.bc x.kn x.kc h3 x.bs hbs hbb h1 e
end Go.Proofs.Ytefjljdgdoklmaa
