import Derived.Test.YtefjljdgdoklmaaM33
import Derived.Deep.RegionHeld
import Derived.Test.YtefjljdgdoklmaaM01
/-
  A call of both file systems, as the law makes it: Rename, Fault, Turn.
-/
namespace Go.Proofs.Ytefjljdgdoklmaa
open Go.RowKit Go.Maps Go.Sort
section
variable {B i f q : Nat} {w : World} {d : Disk} {r : RDisk} {A C : Nat → Prop} {rho : Nat → Nat}
set_option maxRecDepth 100000 in
set_option maxHeartbeats 4000000 in
theorem act_4 (hm : Mem2 B f q w d r A C) (hB : B ≤ w.heap.size) (hi : Inv i rho d r) (hb : i ≤ 900) (kind N M E : Int) (s t : ByteArray) (ba ka : Option Addr) (bn bc kn kc : Nat) (hs : s.size ≤ 300) (ht : t.size ≤ 300) (hp : pickZ kind 12 = 4) :
    Calls Try.prog 25 #[.pointer (some ⟨f, 0, none⟩), .pointer (some ⟨q, 0, none⟩), .agg #[.int .i64 kind, .string s, .string t, .slice ba bn bc, .int .i64 N, .int .i64 M, .int .i64 E, .slice ka kn kc]] w fun e w' => e = .returned (.bool true) ∧ Fin B i f q A C w w' := by
  have hrow : (w.alloc (.cells #[.int .i64 kind, .string s, .string t, .slice ba bn bc, .int .i64 N, .int .i64 M, .int .i64 E, .slice ka kn kc] 49)).heap[w.heap.size]? = some (.cells #[.int .i64 kind, .string s, .string t, .slice ba bn bc, .int .i64 N, .int .i64 M, .int .i64 E, .slice ka kn kc] 49 (0, 0)) := heap_alloc_new w _
  have HR := hide hrow
  have HG := hide hm.alone
  have HT := hide ((Turns.refl (AC A C) w).alloc (.cells #[.int .i64 kind, .string s, .string t, .slice ba bn bc, .int .i64 N, .int .i64 M, .int .i64 E, .slice ka kn kc] 49))
  have HM := hide (hm.quiet ((Turns.refl _ w).alloc (.cells #[.int .i64 kind, .string s, .string t, .slice ba bn bc, .int .i64 N, .int .i64 M, .int .i64 E, .slice ka kn kc] 49)))
  have HB := hide hB
  have HP := hide hp
  have HS0 := hide hm.la
  have HS1 := hide hm.lc
  clear hrow hm hp hB
  go_enter Try.func25, Try.ntmps25
  go_wp2_with fail
  have hsz : (w.alloc (.cells #[.int .i64 kind, .string s, .string t, .slice ba bn bc, .int .i64 N, .int .i64 M, .int .i64 E, .slice ka kn kc] 49)).heap.size = w.heap.size + 1 := by simp
  have HB1 := hide (show B ≤ (w.alloc (.cells #[.int .i64 kind, .string s, .string t, .slice ba bn bc, .int .i64 N, .int .i64 M, .int .i64 E, .slice ka kn kc] 49)).heap.size by rw [hsz]; have := HB.out; omega)
  clear hsz
  generalize hw0 : (w.alloc (.cells #[.int .i64 kind, .string s, .string t, .slice ba bn bc, .int .i64 N, .int .i64 M, .int .i64 E, .slice ka kn kc] 49)) = w0 at *
  generalize hg0 : w.heap.size = g at *
  clear hw0
  refine (pick_any kind w0).mono ?_
  rintro e w1 ⟨rfl, hw1⟩
  subst hw1
  rw [HP.out]
  have a1 : w1.cell? ⟨g, 1, none⟩ = some (.string s) := cell_of_row w1 g 1 _ 49 (0, 0) HR.out
  have a2 : w1.cell? ⟨g, 2, none⟩ = some (.string t) := cell_of_row w1 g 2 _ 49 (0, 0) HR.out
  have TD := hide ((Turns.refl (fun _ => False) w1).drew)
  have HC := hide (rename_pair (HM.out.quiet TD.out) (Nat.le_trans HB1.out TD.out.size) hi hb s t hs ht)
  go_wp2_with fail
  go_region_held (fun w' => w'.cell? ⟨g, 1, none⟩ = some (.string s) ∧ w'.cell? ⟨g, 2, none⟩ = some (.string t)) (first | (with_reducible exact ⟨h1, h2⟩) | (with_reducible exact ⟨f1, f2⟩) | (simp only [World.cell?_drew]; with_reducible exact ⟨a1, a2⟩)) (first
    | (go_at_call 15; refine HC.out.mono ?_; rintro e w2 ⟨z, rfl, t2, c2⟩; have f1 := t2.cell (p := ⟨g, 1, none⟩) (v := .string s) a1 HG.out; have f2 := t2.cell (p := ⟨g, 2, none⟩) (v := .string t) a2 HG.out; have T2 := hide t2; have C2 := hide c2; clear t2 c2)
    | (go_at_call 59; refine C2.out.mono ?_; rintro e w3 ⟨rfl, c3⟩; have h1 := c3.1.cell (p := ⟨g, 1, none⟩) (v := .string s) a1 HG.out; have h2 := c3.1.cell (p := ⟨g, 2, none⟩) (v := .string t) a2 HG.out; have C3 := hide c3; clear c3))
  go_wp2_with fail
  go_ret
  exact ⟨by simp, fin_from HT.out (fin_from (TD.out.mono fun _ _ x => x.elim) C3.out)⟩
set_option maxRecDepth 100000 in
set_option maxHeartbeats 4000000 in
theorem act_8 (hm : Mem2 B f q w d r A C) (hB : B ≤ w.heap.size) (hi : Inv i rho d r) (kind N M E : Int) (s t : ByteArray) (ba ka : Option Addr) (bn bc kn kc : Nat) (hN : N ≤ 9223372036854775807) (hp : pickZ kind 12 = 8) :
    Calls Try.prog 25 #[.pointer (some ⟨f, 0, none⟩), .pointer (some ⟨q, 0, none⟩), .agg #[.int .i64 kind, .string s, .string t, .slice ba bn bc, .int .i64 N, .int .i64 M, .int .i64 E, .slice ka kn kc]] w fun e w' => e = .returned (.bool true) ∧ Fin B i f q A C w w' := by
  have hrow : (w.alloc (.cells #[.int .i64 kind, .string s, .string t, .slice ba bn bc, .int .i64 N, .int .i64 M, .int .i64 E, .slice ka kn kc] 49)).heap[w.heap.size]? = some (.cells #[.int .i64 kind, .string s, .string t, .slice ba bn bc, .int .i64 N, .int .i64 M, .int .i64 E, .slice ka kn kc] 49 (0, 0)) := heap_alloc_new w _
  have HR := hide hrow
  have HG := hide hm.alone
  have HT := hide ((Turns.refl (AC A C) w).alloc (.cells #[.int .i64 kind, .string s, .string t, .slice ba bn bc, .int .i64 N, .int .i64 M, .int .i64 E, .slice ka kn kc] 49))
  have HM := hide (hm.quiet ((Turns.refl _ w).alloc (.cells #[.int .i64 kind, .string s, .string t, .slice ba bn bc, .int .i64 N, .int .i64 M, .int .i64 E, .slice ka kn kc] 49)))
  have HB := hide hB
  have HP := hide hp
  have HS0 := hide hm.la
  have HS1 := hide hm.lc
  clear hrow hm hp hB
  go_enter Try.func25, Try.ntmps25
  go_wp2_with fail
  have hsz : (w.alloc (.cells #[.int .i64 kind, .string s, .string t, .slice ba bn bc, .int .i64 N, .int .i64 M, .int .i64 E, .slice ka kn kc] 49)).heap.size = w.heap.size + 1 := by simp
  have HB1 := hide (show B ≤ (w.alloc (.cells #[.int .i64 kind, .string s, .string t, .slice ba bn bc, .int .i64 N, .int .i64 M, .int .i64 E, .slice ka kn kc] 49)).heap.size by rw [hsz]; have := HB.out; omega)
  clear hsz
  generalize hw0 : (w.alloc (.cells #[.int .i64 kind, .string s, .string t, .slice ba bn bc, .int .i64 N, .int .i64 M, .int .i64 E, .slice ka kn kc] 49)) = w0 at *
  generalize hg0 : w.heap.size = g at *
  clear hw0
  refine (pick_any kind w0).mono ?_
  rintro e w1 ⟨rfl, hw1⟩
  subst hw1
  rw [HP.out]
  have a4 : w1.cell? ⟨g, 4, none⟩ = some (.int .i64 N) := cell_of_row w1 g 4 _ 49 (0, 0) HR.out
  have a6 : w1.cell? ⟨g, 6, none⟩ = some (.int .i64 E) := cell_of_row w1 g 6 _ 49 (0, 0) HR.out
  have TD := hide ((Turns.refl (fun _ => False) w1).drew)
  have HC := hide (fault_pair (HM.out.quiet TD.out) (Nat.le_trans HB1.out TD.out.size) hi N E hN)
  go_wp2_with fail
  go_region_held (fun w' => w'.cell? ⟨g, 4, none⟩ = some (.int .i64 N) ∧ w'.cell? ⟨g, 6, none⟩ = some (.int .i64 E)) (first | (with_reducible exact ⟨h4, h6⟩) | (with_reducible exact ⟨f4, f6⟩) | (simp only [World.cell?_drew]; with_reducible exact ⟨a4, a6⟩)) (first
    | (go_at_call 19; refine HC.out.mono ?_; rintro e w2 ⟨z, rfl, t2, c2⟩; have f4 := t2.cell (p := ⟨g, 4, none⟩) (v := .int .i64 N) a4 HG.out; have f6 := t2.cell (p := ⟨g, 6, none⟩) (v := .int .i64 E) a6 HG.out; have T2 := hide t2; have C2 := hide c2; clear t2 c2)
    | (go_at_call 63; refine C2.out.mono ?_; rintro e w3 ⟨rfl, c3⟩; have h4 := c3.1.cell (p := ⟨g, 4, none⟩) (v := .int .i64 N) a4 HG.out; have h6 := c3.1.cell (p := ⟨g, 6, none⟩) (v := .int .i64 E) a6 HG.out; have C3 := hide c3; clear c3))
  go_wp2_with fail
  go_ret
  exact ⟨by simp, fin_from HT.out (fin_from (TD.out.mono fun _ _ x => x.elim) C3.out)⟩
end
end Go.Proofs.Ytefjljdgdoklmaa

/-
  A call of both file systems, as the law makes it: Turn.
-/
namespace Go.Proofs.Ytefjljdgdoklmaa
open Go.RowKit Go.Maps Go.Sort
section
variable {B i f q : Nat} {w : World} {d : Disk} {r : RDisk} {A C : Nat → Prop} {rho : Nat → Nat}
set_option maxRecDepth 100000 in
set_option maxHeartbeats 4000000 in
theorem act_10 (hm : Mem2 B f q w d r A C) (hB : B ≤ w.heap.size) (hi : Inv i rho d r) (hb : i ≤ 900) (kind N M E : Int) (s t : ByteArray) (ba ka : Option Addr) (bn bc kn kc : Nat) (hs : s.size ≤ 300) (hp : pickZ kind 12 = 10) :
    Calls Try.prog 25 #[.pointer (some ⟨f, 0, none⟩), .pointer (some ⟨q, 0, none⟩), .agg #[.int .i64 kind, .string s, .string t, .slice ba bn bc, .int .i64 N, .int .i64 M, .int .i64 E, .slice ka kn kc]] w fun e w' => e = .returned (.bool true) ∧ Fin B i f q A C w w' := by
  have hrow : (w.alloc (.cells #[.int .i64 kind, .string s, .string t, .slice ba bn bc, .int .i64 N, .int .i64 M, .int .i64 E, .slice ka kn kc] 49)).heap[w.heap.size]? = some (.cells #[.int .i64 kind, .string s, .string t, .slice ba bn bc, .int .i64 N, .int .i64 M, .int .i64 E, .slice ka kn kc] 49 (0, 0)) := heap_alloc_new w _
  have HR := hide hrow
  have HG := hide hm.alone
  have HT := hide ((Turns.refl (AC A C) w).alloc (.cells #[.int .i64 kind, .string s, .string t, .slice ba bn bc, .int .i64 N, .int .i64 M, .int .i64 E, .slice ka kn kc] 49))
  have HM := hide (hm.quiet ((Turns.refl _ w).alloc (.cells #[.int .i64 kind, .string s, .string t, .slice ba bn bc, .int .i64 N, .int .i64 M, .int .i64 E, .slice ka kn kc] 49)))
  have HB := hide hB
  have HP := hide hp
  have HS0 := hide hm.la
  have HS1 := hide hm.lc
  clear hrow hm hp hB
  go_enter Try.func25, Try.ntmps25
  go_wp2_with fail
  have hsz : (w.alloc (.cells #[.int .i64 kind, .string s, .string t, .slice ba bn bc, .int .i64 N, .int .i64 M, .int .i64 E, .slice ka kn kc] 49)).heap.size = w.heap.size + 1 := by simp
  have HB1 := hide (show B ≤ (w.alloc (.cells #[.int .i64 kind, .string s, .string t, .slice ba bn bc, .int .i64 N, .int .i64 M, .int .i64 E, .slice ka kn kc] 49)).heap.size by rw [hsz]; have := HB.out; omega)
  clear hsz
  generalize hw0 : (w.alloc (.cells #[.int .i64 kind, .string s, .string t, .slice ba bn bc, .int .i64 N, .int .i64 M, .int .i64 E, .slice ka kn kc] 49)) = w0 at *
  generalize hg0 : w.heap.size = g at *
  clear hw0
  refine (pick_any kind w0).mono ?_
  rintro e w1 ⟨rfl, hw1⟩
  subst hw1
  rw [HP.out]
  have a1 : w1.cell? ⟨g, 1, none⟩ = some (.string s) := cell_of_row w1 g 1 _ 49 (0, 0) HR.out
  have a4 : w1.cell? ⟨g, 4, none⟩ = some (.int .i64 N) := cell_of_row w1 g 4 _ 49 (0, 0) HR.out
  have a5 : w1.cell? ⟨g, 5, none⟩ = some (.int .i64 M) := cell_of_row w1 g 5 _ 49 (0, 0) HR.out
  have TD := hide ((Turns.refl (fun _ => False) w1).drew)
  obtain ⟨b, hcv⟩ : ∃ b : BitVec 8, ∀ w, (convert 3 5 (.int .i64 M)).run Try.prog w = .ok (.int .u8 (b.toNat : Int)) w := ⟨BitVec.ofInt 8 M, fun w => by
    rw [show ((BitVec.ofInt 8 M).toNat : Int) = M % 256 by rw [BitVec.toNat_ofInt]; omega]
    kernel_rfl⟩
  have HC := hide (turn_pair (HM.out.quiet TD.out) (Nat.le_trans HB1.out TD.out.size) hi hb s hs N b)
  go_wp2_with fail
  go_region_held (fun w' => w'.cell? ⟨g, 1, none⟩ = some (.string s) ∧ w'.cell? ⟨g, 4, none⟩ = some (.int .i64 N) ∧ w'.cell? ⟨g, 5, none⟩ = some (.int .i64 M)) (first | (with_reducible exact ⟨h1, h4, h5⟩) | (with_reducible exact ⟨f1, f4, f5⟩) | (simp only [World.cell?_drew]; with_reducible exact ⟨a1, a4, a5⟩)) (first
    | (go_at_call 30; refine HC.out.mono ?_; rintro e w2 ⟨z, rfl, t2, c2⟩; have f1 := t2.cell (p := ⟨g, 1, none⟩) (v := .string s) a1 HG.out; have f4 := t2.cell (p := ⟨g, 4, none⟩) (v := .int .i64 N) a4 HG.out; have f5 := t2.cell (p := ⟨g, 5, none⟩) (v := .int .i64 M) a5 HG.out; have T2 := hide t2; have C2 := hide c2; clear t2 c2)
    | (go_at_call 65; refine C2.out.mono ?_; rintro e w3 ⟨rfl, c3⟩; have h1 := c3.1.cell (p := ⟨g, 1, none⟩) (v := .string s) a1 HG.out; have h4 := c3.1.cell (p := ⟨g, 4, none⟩) (v := .int .i64 N) a4 HG.out; have h5 := c3.1.cell (p := ⟨g, 5, none⟩) (v := .int .i64 M) a5 HG.out; have C3 := hide c3; clear c3))
  go_wp2_with fail
  go_ret
  exact ⟨by simp, fin_from HT.out (fin_from (TD.out.mono fun _ _ x => x.elim) C3.out)⟩
end
end Go.Proofs.Ytefjljdgdoklmaa

/-
  A call of both file systems, as the law makes it: SyncDir, Fuse.
-/
namespace Go.Proofs.Ytefjljdgdoklmaa
open Go.RowKit Go.Maps Go.Sort
section
variable {B i f q : Nat} {w : World} {d : Disk} {r : RDisk} {A C : Nat → Prop} {rho : Nat → Nat}
set_option maxRecDepth 100000 in
set_option maxHeartbeats 4000000 in
theorem act_3 (hm : Mem2 B f q w d r A C) (hB : B ≤ w.heap.size) (hi : Inv i rho d r) (hb : i ≤ 900) (kind N M E : Int) (s t : ByteArray) (ba ka : Option Addr) (bn bc kn kc : Nat) (hp : pickZ kind 12 = 3) :
    Calls Try.prog 25 #[.pointer (some ⟨f, 0, none⟩), .pointer (some ⟨q, 0, none⟩), .agg #[.int .i64 kind, .string s, .string t, .slice ba bn bc, .int .i64 N, .int .i64 M, .int .i64 E, .slice ka kn kc]] w fun e w' => e = .returned (.bool true) ∧ Fin B i f q A C w w' := by
  have hrow : (w.alloc (.cells #[.int .i64 kind, .string s, .string t, .slice ba bn bc, .int .i64 N, .int .i64 M, .int .i64 E, .slice ka kn kc] 49)).heap[w.heap.size]? = some (.cells #[.int .i64 kind, .string s, .string t, .slice ba bn bc, .int .i64 N, .int .i64 M, .int .i64 E, .slice ka kn kc] 49 (0, 0)) := heap_alloc_new w _
  have HR := hide hrow
  have HG := hide hm.alone
  have HT := hide ((Turns.refl (AC A C) w).alloc (.cells #[.int .i64 kind, .string s, .string t, .slice ba bn bc, .int .i64 N, .int .i64 M, .int .i64 E, .slice ka kn kc] 49))
  have HM := hide (hm.quiet ((Turns.refl _ w).alloc (.cells #[.int .i64 kind, .string s, .string t, .slice ba bn bc, .int .i64 N, .int .i64 M, .int .i64 E, .slice ka kn kc] 49)))
  have HB := hide hB
  have HP := hide hp
  have HS0 := hide hm.la
  have HS1 := hide hm.lc
  clear hrow hm hp hB
  go_enter Try.func25, Try.ntmps25
  go_wp2_with fail
  have hsz : (w.alloc (.cells #[.int .i64 kind, .string s, .string t, .slice ba bn bc, .int .i64 N, .int .i64 M, .int .i64 E, .slice ka kn kc] 49)).heap.size = w.heap.size + 1 := by simp
  have HB1 := hide (show B ≤ (w.alloc (.cells #[.int .i64 kind, .string s, .string t, .slice ba bn bc, .int .i64 N, .int .i64 M, .int .i64 E, .slice ka kn kc] 49)).heap.size by rw [hsz]; have := HB.out; omega)
  clear hsz
  generalize hw0 : (w.alloc (.cells #[.int .i64 kind, .string s, .string t, .slice ba bn bc, .int .i64 N, .int .i64 M, .int .i64 E, .slice ka kn kc] 49)) = w0 at *
  generalize hg0 : w.heap.size = g at *
  clear hw0
  refine (pick_any kind w0).mono ?_
  rintro e w1 ⟨rfl, hw1⟩
  subst hw1
  rw [HP.out]
  have HC := hide (syncdir_pair HM.out HB1.out hi hb)
  go_wp2_with fail
  refine HC.out.mono ?_
  rintro e w2 ⟨z, rfl, t2, c2⟩
  have C2 := hide c2
  clear t2 c2
  go_wp2_with fail
  refine C2.out.mono ?_
  rintro e w3 ⟨rfl, c3⟩
  have C3 := hide c3
  clear c3
  go_wp2_with fail
  go_ret
  exact ⟨by simp, fin_from HT.out C3.out⟩
set_option maxRecDepth 100000 in
set_option maxHeartbeats 4000000 in
theorem act_7 (hm : Mem2 B f q w d r A C) (hB : B ≤ w.heap.size) (hi : Inv i rho d r) (kind N M E : Int) (s t : ByteArray) (ba ka : Option Addr) (bn bc kn kc : Nat) (hN : N ≤ 9223372036854775807) (hp : pickZ kind 12 = 7) :
    Calls Try.prog 25 #[.pointer (some ⟨f, 0, none⟩), .pointer (some ⟨q, 0, none⟩), .agg #[.int .i64 kind, .string s, .string t, .slice ba bn bc, .int .i64 N, .int .i64 M, .int .i64 E, .slice ka kn kc]] w fun e w' => e = .returned (.bool true) ∧ Fin B i f q A C w w' := by
  have hrow : (w.alloc (.cells #[.int .i64 kind, .string s, .string t, .slice ba bn bc, .int .i64 N, .int .i64 M, .int .i64 E, .slice ka kn kc] 49)).heap[w.heap.size]? = some (.cells #[.int .i64 kind, .string s, .string t, .slice ba bn bc, .int .i64 N, .int .i64 M, .int .i64 E, .slice ka kn kc] 49 (0, 0)) := heap_alloc_new w _
  have HR := hide hrow
  have HG := hide hm.alone
  have HT := hide ((Turns.refl (AC A C) w).alloc (.cells #[.int .i64 kind, .string s, .string t, .slice ba bn bc, .int .i64 N, .int .i64 M, .int .i64 E, .slice ka kn kc] 49))
  have HM := hide (hm.quiet ((Turns.refl _ w).alloc (.cells #[.int .i64 kind, .string s, .string t, .slice ba bn bc, .int .i64 N, .int .i64 M, .int .i64 E, .slice ka kn kc] 49)))
  have HB := hide hB
  have HP := hide hp
  have HS0 := hide hm.la
  have HS1 := hide hm.lc
  clear hrow hm hp hB
  go_enter Try.func25, Try.ntmps25
  go_wp2_with fail
  have hsz : (w.alloc (.cells #[.int .i64 kind, .string s, .string t, .slice ba bn bc, .int .i64 N, .int .i64 M, .int .i64 E, .slice ka kn kc] 49)).heap.size = w.heap.size + 1 := by simp
  have HB1 := hide (show B ≤ (w.alloc (.cells #[.int .i64 kind, .string s, .string t, .slice ba bn bc, .int .i64 N, .int .i64 M, .int .i64 E, .slice ka kn kc] 49)).heap.size by rw [hsz]; have := HB.out; omega)
  clear hsz
  generalize hw0 : (w.alloc (.cells #[.int .i64 kind, .string s, .string t, .slice ba bn bc, .int .i64 N, .int .i64 M, .int .i64 E, .slice ka kn kc] 49)) = w0 at *
  generalize hg0 : w.heap.size = g at *
  clear hw0
  refine (pick_any kind w0).mono ?_
  rintro e w1 ⟨rfl, hw1⟩
  subst hw1
  rw [HP.out]
  have a4 : w1.cell? ⟨g, 4, none⟩ = some (.int .i64 N) := cell_of_row w1 g 4 _ 49 (0, 0) HR.out
  have HC := hide (fuse_pair HM.out HB1.out hi N hN)
  go_wp2_with fail
  refine HC.out.mono ?_
  rintro e w2 ⟨⟨v, rfl⟩, t2, c2⟩
  have a4 := t2.cell a4 HG.out
  have C2 := hide c2
  clear t2 c2
  go_wp2_with fail
  refine C2.out.mono ?_
  rintro e w3 ⟨rfl, c3⟩
  have C3 := hide c3
  clear c3
  go_wp2_with fail
  go_ret
  exact ⟨by simp, fin_from HT.out C3.out⟩
end
end Go.Proofs.Ytefjljdgdoklmaa

/-
  What the laws share: copies of bytes, and how bytes are compared.
-/
namespace Go.Proofs.Ytefjljdgdoklmaa
open Go.RowKit

theorem Bytes.drewN {w : World} {v : Value} {bs : List (BitVec 8)} (h : Bytes w v bs) (m : Nat) : Bytes (w.drewN m) v bs := h
set_option maxHeartbeats 400000 in
theorem own_any (v : Value) (bs : List (BitVec 8)) (w : World) (h : Bytes w v bs) (hn : bs.length ≤ 140737488355328) :
    Calls Try.prog 34 #[v] w fun e w' => ∃ g c, e = .returned (.slice (some ⟨g, 0, none⟩) bs.length c) ∧ w.heap.size ≤ g ∧ bs.length ≤ c ∧ RowB w' g c bs ∧ Below w.heap.size w w' := by
  have hb : Below w.heap.size w (w.alloc (.cells #[] 5)) := (Below.refl _ _).alloc (Nat.le_refl _) _
  obtain ⟨g, c, w2, hr, hg, hrow, hb2, hc, _⟩ := append_bytes2 (w.alloc (.cells #[] 5)) w.heap.size (some ⟨w.heap.size, 0, none⟩) 0 0 [] rfl v bs bs.length rfl (h.below hb) (by simp)
    (.inr ⟨_, rfl, Nat.le_refl _, Nat.le_refl _, #[], heap_alloc_new w _, Nat.le_refl _, fun k hk => by simp [cellsOf] at hk⟩) (by omega)
  rw [Nat.zero_add] at hr hc
  rw [List.nil_append] at hrow
  have HR := hide hr
  have HW := hide hrow
  have HB := hide (hb.trans hb2)
  clear hr hrow hb hb2 h
  generalize hn' : bs.length = n at *
  go_enter Try.func34, Try.ntmps34
  go_wp2_with (at_builtin; refine wpList_append_run rfl _ _ 28 rfl _ _ rfl rfl _ _ (HR.out _) ?_)
  go_ret
  exact ⟨g, c, rfl, hg, hc, HW.out, HB.out⟩

set_option maxRecDepth 100000 in
set_option maxHeartbeats 1000000 in
/-- The same bytes are found the same. -/
theorem bytes_same (a a' : Option Addr) (n c c' : Nat) (bs : List (BitVec 8)) (w : World) (h : Bytes w (.slice a n c) bs) (h' : Bytes w (.slice a' n c') bs) (hn : n ≤ 1000000000) :
    Calls Try.prog 35 #[.slice a n c, .slice a' n c'] w fun e w' => e = .returned (.bool true) ∧ ∃ m, w' = w.drewN m := by
  have hl := h.len
  have H := hide h
  have H' := hide h'
  have HL := hide hl
  clear h h' hl
  go_enter Try.func35, Try.ntmps35
  go_wp2
  go_loopw [5] (fun i wr => ∃ k : Nat, i = .int .i64 (k : Nat) ∧ k ≤ n ∧ ∃ m, wr = w.drewN m) (fun i _ => n - (intOf i).toNat)
  case atStart => exact ⟨0, rfl, Nat.zero_le _, 0, rfl⟩
  case round =>
    obtain ⟨k, rfl, hk, m, rfl⟩ := hrel
    by_cases hkn : k < n
    · obtain ⟨b, off, rfl⟩ := H.out.addr (by omega)
      obtain ⟨b', off', rfl⟩ := H'.out.addr (by omega)
      have h1 := H.out.at k (by have := HL.out; omega)
      have h2 := H'.out.at k (by have := HL.out; omega)
      generalize hx : (bs.getD k 0).toNat = x at *
      clear hx
      have i1 : (k : Int) < (n : Int) := by omega
      have i0 : (0 : Int) ≤ (k : Int) := by omega
      go_wp2_with fail
      go_quiet (fail)
      go_wp2
      go_roundw
      case rel => exact ⟨k + 1, by go_num, by omega, _, rfl⟩
      case measure => simp [intOf]; omega
    · obtain rfl : k = n := by omega
      go_wp2
      go_ret
      exact ⟨rfl, m, rfl⟩


end Go.Proofs.Ytefjljdgdoklmaa

/-
  A call of both file systems, as the law makes it: Read.
-/
namespace Go.Proofs.Ytefjljdgdoklmaa
open Go.RowKit Go.Maps Go.Sort
section
variable {B i f q : Nat} {w : World} {d : Disk} {r : RDisk} {A C : Nat → Prop} {rho : Nat → Nat}
set_option maxRecDepth 100000 in
set_option maxHeartbeats 4000000 in
theorem act_6 (hm : Mem2 B f q w d r A C) (hB : B ≤ w.heap.size) (hi : Inv i rho d r) (hb : i ≤ 900) (kind N M E : Int) (s t : ByteArray) (ba ka : Option Addr) (bn bc kn kc : Nat) (hs : s.size ≤ 300) (hN : N ≤ 9223372036854775807) (hM : M ≤ 9223372036854775807) (hp : pickZ kind 12 = 6) :
    Calls Try.prog 25 #[.pointer (some ⟨f, 0, none⟩), .pointer (some ⟨q, 0, none⟩), .agg #[.int .i64 kind, .string s, .string t, .slice ba bn bc, .int .i64 N, .int .i64 M, .int .i64 E, .slice ka kn kc]] w fun e w' => e = .returned (.bool true) ∧ Fin B i f q A C w w' := by
  have hrow : (w.alloc (.cells #[.int .i64 kind, .string s, .string t, .slice ba bn bc, .int .i64 N, .int .i64 M, .int .i64 E, .slice ka kn kc] 49)).heap[w.heap.size]? = some (.cells #[.int .i64 kind, .string s, .string t, .slice ba bn bc, .int .i64 N, .int .i64 M, .int .i64 E, .slice ka kn kc] 49 (0, 0)) := heap_alloc_new w _
  have HR := hide hrow
  have HG := hide hm.alone
  have HT := hide ((Turns.refl (AC A C) w).alloc (.cells #[.int .i64 kind, .string s, .string t, .slice ba bn bc, .int .i64 N, .int .i64 M, .int .i64 E, .slice ka kn kc] 49))
  have HM := hide (hm.quiet ((Turns.refl _ w).alloc (.cells #[.int .i64 kind, .string s, .string t, .slice ba bn bc, .int .i64 N, .int .i64 M, .int .i64 E, .slice ka kn kc] 49)))
  have HB := hide hB
  have HP := hide hp
  have HS0 := hide hm.la
  have HS1 := hide hm.lc
  clear hrow hm hp hB
  go_enter Try.func25, Try.ntmps25
  go_wp2_with fail
  have hsz : (w.alloc (.cells #[.int .i64 kind, .string s, .string t, .slice ba bn bc, .int .i64 N, .int .i64 M, .int .i64 E, .slice ka kn kc] 49)).heap.size = w.heap.size + 1 := by simp
  have HB1 := hide (show B ≤ (w.alloc (.cells #[.int .i64 kind, .string s, .string t, .slice ba bn bc, .int .i64 N, .int .i64 M, .int .i64 E, .slice ka kn kc] 49)).heap.size by rw [hsz]; have := HB.out; omega)
  clear hsz
  generalize hw0 : (w.alloc (.cells #[.int .i64 kind, .string s, .string t, .slice ba bn bc, .int .i64 N, .int .i64 M, .int .i64 E, .slice ka kn kc] 49)) = w0 at *
  generalize hg0 : w.heap.size = g at *
  clear hw0
  refine (pick_any kind w0).mono ?_
  rintro e w1 ⟨rfl, hw1⟩
  subst hw1
  rw [HP.out]
  have a1 : w1.cell? ⟨g, 1, none⟩ = some (.string s) := cell_of_row w1 g 1 _ 49 (0, 0) HR.out
  have a4 : w1.cell? ⟨g, 4, none⟩ = some (.int .i64 N) := cell_of_row w1 g 4 _ 49 (0, 0) HR.out
  have a5 : w1.cell? ⟨g, 5, none⟩ = some (.int .i64 M) := cell_of_row w1 g 5 _ 49 (0, 0) HR.out
  have HC := hide (read_pair HM.out HB1.out hi hb s (le1000 hs) N M hN hM)
  go_wp2_with fail
  refine HC.out.mono ?_
  rintro e w2 ⟨xa, xm, xc, z, bs, rfl, t2, c2⟩
  have a1 := t2.cell a1 HG.out
  have a4 := t2.cell a4 HG.out
  have a5 := t2.cell a5 HG.out
  have C2 := hide c2
  clear t2 c2
  go_wp2_with fail
  refine C2.out.mono ?_
  rintro e w3 ⟨ya, yc, rfl, b1, b2, hm0, c3⟩
  have C3 := hide c3
  have HS := hide (bytes_same xa ya xm xc yc bs w3 b1 b2 (by omega))
  clear c3 b1 b2 hm0
  go_wp2_with fail
  refine HS.out.mono ?_
  rintro e w4 ⟨rfl, m, rfl⟩
  go_wp2_with fail
  go_ret
  exact ⟨by simp, fin_from HT.out ⟨C3.out.1.drewN m, by
    obtain ⟨rho', d', r', A', C', h1, h2, h3⟩ := C3.out.2
    exact ⟨rho', d', r', A', C', h1.quiet ((Turns.refl _ w3).drewN m), h2, h3⟩⟩⟩
end
end Go.Proofs.Ytefjljdgdoklmaa
