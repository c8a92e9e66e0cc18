import Derived.Test.YtjklbhdhjfifhaaGreatM09
import Derived.Shelf.SlMaps.Clone
/-
  A copy of a directory.
-/
namespace Go.Proofs.YtjklbhdhjfifhaaGreat
open Go.RowKit Go.Maps

end Go.Proofs.YtjklbhdhjfifhaaGreat

/-
  Sync, Append and Read go through the guard with a closure over the file of the name.
-/
namespace Go.Proofs.YtjklbhdhjfifhaaGreat
open Go.RowKit Go.Maps

/-- The closure of onFile, with its three variables. -/
def OnVars (w : World) (q : Nat) (p : Option Addr) (name : ByteArray) (M : Nat) (caps : Array Value) : Prop :=
  w.cell? ⟨q, 0, none⟩ = some (.pointer p) ∧ w.cell? ⟨q + 1, 0, none⟩ = some (.string name) ∧ w.cell? ⟨q + 2, 0, none⟩ = some (.func (.func M) #[] caps)
def onVal (q : Nat) : Value := .func (.func 105) #[] #[.pointer (some ⟨q, 0, none⟩), .pointer (some ⟨q + 1, 0, none⟩), .pointer (some ⟨q + 2, 0, none⟩)]

set_option maxRecDepth 100000 in
set_option maxHeartbeats 1000000 in
theorem sync_via (p : Option Addr) (name : ByteArray) (w : World) (R : Ending → World → Prop)
    (HR : ∀ w1, Turns (fun _ => False) w w1 → OnVars w1 w.heap.size p name 92 #[] → Calls Tryz.prog 59 #[.pointer p, .bool (goodN name), onVal w.heap.size] w1 fun e w' => ∃ z : Int, e = .returned (.int .i64 z) ∧ R (.returned (.int .i64 z)) w') :
    Calls Tryz.prog 52 #[.pointer p, .string name] w R := by
  have HRR := hide HR
  clear HR
  go_enter Tryz.func52, Tryz.ntmps52
  go_wp2_with fail
  refine (name_any name _).mono ?_
  rintro e w1 ⟨rfl, rfl⟩
  go_wp2_with fail
  refine (onFile_any p name 92 #[] _).mono ?_
  rintro e w2 ⟨rfl, h0, h1, h2, ht⟩
  have HV : Hid (OnVars w2 w1.heap.size p name 92 #[]) := ⟨h0, h1, h2⟩
  have HT := hide ht
  clear h0 h1 h2 ht
  go_wp2_with fail
  refine (HRR.out w2 HT.out HV.out).mono ?_
  rintro e w3 ⟨z, rfl, hz⟩
  have HZ := hide hz
  clear hz
  go_wp2_with fail
  exact HZ.out

set_option maxRecDepth 100000 in
set_option maxHeartbeats 4000000 in
theorem append_via (p : Option Addr) (name : ByteArray) (a : Option Addr) (n c : Nat) (w : World) (R : Ending → World → Prop)
    (HR : ∀ w1, Turns (fun _ => False) w w1 → w1.cell? ⟨w.heap.size, 0, none⟩ = some (.pointer p) → w1.cell? ⟨w.heap.size + 1, 0, none⟩ = some (.slice a n c) → OnVars w1 (w.heap.size + 2) p name 64 #[.pointer (some ⟨w.heap.size + 1, 0, none⟩), .pointer (some ⟨w.heap.size, 0, none⟩)] →
      Calls Tryz.prog 59 #[.pointer p, .bool (goodN name), onVal (w.heap.size + 2)] w1 fun e w' => ∃ z : Int, e = .returned (.int .i64 z) ∧ R (.returned (.int .i64 z)) w' ∧ Turns (fun k => k < w.heap.size) w1 w') :
    Calls Tryz.prog 37 #[.pointer p, .string name, .slice a n c] w R := by
  have hmf := makeF
  have HRR := hide HR
  clear HR
  have hT : Turns (fun _ => False) w ((w.alloc (.cells #[.pointer p] 26)).alloc (.cells #[.slice a n c] 28)) := ((Turns.refl _ w).alloc _).alloc _
  have x0 : ((w.alloc (.cells #[.pointer p] 26)).alloc (.cells #[.slice a n c] 28)).cell? ⟨w.heap.size, 0, none⟩ = some (.pointer p) := cell_of_row _ _ 0 _ 26 (0, 0) ((heap_alloc_old _ _ (by simp)).trans (heap_alloc_new w _))
  have x1 : ((w.alloc (.cells #[.pointer p] 26)).alloc (.cells #[.slice a n c] 28)).cell? ⟨w.heap.size + 1, 0, none⟩ = some (.slice a n c) := cell_of_row _ _ 0 _ 28 (0, 0) (heap_alloc2_new w _ _)
  have hs1 : ((w.alloc (.cells #[.pointer p] 26)).alloc (.cells #[.slice a n c] 28)).heap.size = w.heap.size + 2 := by simp
  have HT := hide hT
  clear hT
  go_enter Tryz.func37, Tryz.ntmps37
  go_wp2_with fail
  generalize (w.alloc (.cells #[.pointer p] 26)).alloc (.cells #[.slice a n c] 28) = w1 at *
  generalize hpf : w.heap.size = pf at *
  have hs2 : w1.drew.heap.size = pf + 2 := hs1
  go_region_held (fun w' => w'.cell? ⟨pf, 0, none⟩ = some (.pointer p)) (first | (with_reducible exact f1) | (with_reducible exact f0) | (simp only [World.cell?_drew]; with_reducible exact x0)) (first
    | (go_at_call 60; refine (name_any name _).mono ?_; rintro e w2 ⟨rfl, rfl⟩)
    | (go_at_call 63; refine (onFile_any p name 64 _ _).mono ?_; rintro e w4 ⟨rfl, h0, h1, h2, ht⟩; rw [hs2] at h0 h1 h2 ⊢; have f0 := ht.cell (a := w1.drew) x0 (fun x => x); have g1 := ht.cell (a := w1.drew) x1 (fun x => x); have HV : Hid (OnVars w4 (pf + 2) p name 64 _) := ⟨h0, h1, h2⟩; have HT4 := hide (HT.out.drew.trans ht); clear h0 h1 h2 ht)
    | (go_at_call 59; refine (HRR.out _ HT4.out f0 g1 HV.out).mono ?_; rintro e w3 ⟨z, rfl, hz, ht⟩; have HZ := hide hz; have f1 := ht.cell f0 (Nat.lt_irrefl _); clear hz ht))
  all_goals go_wp2_with fail
  all_goals exact HZ.out

end Go.Proofs.YtjklbhdhjfifhaaGreat

/-
  Read's closure: what it read is kept in a variable.
-/
namespace Go.Proofs.YtjklbhdhjfifhaaGreat
open Go.RowKit Go.Maps

theorem enters223 (caps : Array Value) (w : World) : (callFunc 223 caps).run Tryz.prog w = .ok (.enter 223 caps) w := by kernel_rfl
theorem enters92 (caps : Array Value) (w : World) : (callFunc 92 caps).run Tryz.prog w = .ok (.enter 92 caps) w := by kernel_rfl
theorem enters64 (caps : Array Value) (w : World) : (callFunc 64 caps).run Tryz.prog w = .ok (.enter 64 caps) w := by kernel_rfl

end Go.Proofs.YtjklbhdhjfifhaaGreat

/-
  A file system with one file: what each operation makes of it.
-/
namespace Go.Proofs.YtjklbhdhjfifhaaGreat
open Go.RowKit Go.Maps

/-- A directory with one name. -/
def one (name : ByteArray) (g : Nat) : DataW Unit := .map [(key name, .lit (.int .i64 (g : Nat)))]
theorem one_file (name : ByteArray) (g : Nat) : fileOf (one name g) name = some g := by
  have : (one name g).atKey (key name) .nil = .lit (.int .i64 (g : Nat)) := by
    simp [one, DataW.atKey, key, Lit.sameKey]
  unfold fileOf
  rw [this]
  simp
theorem none_file (name : ByteArray) : fileOf (.map []) name = none := by
  unfold fileOf
  simp [DataW.atKey]
theorem apply_first (name : ByteArray) (g : Nat) : applyD (.map []) ⟨⟨#[]⟩, name, some g⟩ = one name g := by
  simp [applyD, one, DataW.del, DataW.put, DataW.insert]

/-- A directory's block has just as many entries as it has names. -/
theorem Dir.tight {w : World} {b n : Nat} {D : DataW Unit} (h : Dir w b n D) : Dir w b (Maps.size D) D := by
  obtain ⟨es, clock, hb, F, _, rfl⟩ := h
  exact ⟨es, clock, hb, F, by simp [Maps.size, length_sorted], rfl⟩

/-- A file system whose directory has the one file g; the synced one is S behind the changes l. -/
structure One (B : Nat) (w : World) (f g : Nat) (name : ByteArray) (l : List Chg) (S : DataW Unit) (bytes : List (BitVec 8)) (s0 : Nat) (limit used lost ops : Int) : Prop where
  fB : B ≤ f
  gB : B ≤ g
  ex : ∃ (bn bs nn ns : Nat) (ch fv : Value), w.heap[f]? = some (.cells (fsCells limit (.map (some bn)) (.map (some bs)) ch used lost true ops (-1) (-1) 0) 72 (0, 0)) ∧ Dir w bn nn (one name g) ∧ Dir w bs ns S ∧ Chs w ch l ∧
    w.heap[g]? = some (.cells #[fv, .int .i64 (s0 : Nat)] 99 (0, 0)) ∧ OwnB w fv bytes ∧ bn ≠ bs ∧ B ≤ bn ∧ B ≤ bs ∧ (∀ k, inRowV ch k → B ≤ k) ∧ (∀ k, inRowV fv k → B ≤ k) ∧ nn ≤ 1000 ∧ ns ≤ 1000

end Go.Proofs.YtjklbhdhjfifhaaGreat

/-
  Reading a file, whatever its bytes and wherever one begins.
-/
namespace Go.Proofs.YtjklbhdhjfifhaaGreat
open Go.RowKit Go.Maps

set_option maxRecDepth 100000 in
set_option maxHeartbeats 1000000 in
theorem read_past (g k c L : Nat) (s0 : Int) (at' n : Nat) (w : World) (h : w.heap[g]? = some (.cells #[.slice (some ⟨k, 0, none⟩) L c, .int .i64 s0] 99 (0, 0))) (hc : L ≤ c) (hL2 : L ≤ 1073741824) (h2 : n ≤ 9223372036854775807) (ha : L ≤ at') :
    Calls Tryz.prog 224 #[.pointer (some ⟨g, 0, none⟩), .int .i64 (at' : Nat), .int .i64 (n : Nat)] w fun e w' => ∃ q cq, e = .returned (.slice (some ⟨q, 0, none⟩) 0 cq) ∧ w.heap.size ≤ q ∧ RowB w' q cq [] ∧ Below w.heap.size w w' := by
  have c0 : w.cell? ⟨g, 0, none⟩ = some (.slice (some ⟨k, 0, none⟩) L c) := cell_of_row w g 0 _ 99 (0, 0) h
  clear h
  have g1 : ¬ (at' : Int) < (L : Int) := by omega
  have hcs : (at' = L ∨ L < at') ∧ (n = 0 ∨ 0 < n) := by omega
  obtain ⟨rfl | hlt, rfl | hn0⟩ := hcs
  all_goals
    go_enter Tryz.func224, Tryz.ntmps224
    go_wp2_with fail
    go_quiet (fail)
    go_wp2_with fail
  all_goals
    refine (clone_some _ 0 _ [] rfl (w.drewN nq) (Bytes.nothing _ _) (by simp)).mono ?_
    rintro e w2 ⟨q, cq, rfl, hq, hcq, hr, hb⟩
    have B2 : Hid (Below w.heap.size w w2) := (below_drewN (Below.refl _ _) nq).trans hb
    have R2 := hide hr
    clear hr hb
    go_wp2_with fail
    go_ret
    exact ⟨q, cq, rfl, hq, R2.out, B2.out⟩

set_option maxRecDepth 100000 in
set_option maxHeartbeats 1000000 in
theorem read_nil (g : Nat) (s0 : Int) (at' n : Nat) (w : World) (h : w.heap[g]? = some (.cells #[.slice none 0 0, .int .i64 s0] 99 (0, 0))) (h1 : at' ≤ 9223372036854775807) (h2 : n ≤ 9223372036854775807) :
    Calls Tryz.prog 224 #[.pointer (some ⟨g, 0, none⟩), .int .i64 (at' : Nat), .int .i64 (n : Nat)] w fun e w' => e = .returned (.slice none 0 0) ∧ Below w.heap.size w w' := by
  have c0 : w.cell? ⟨g, 0, none⟩ = some (.slice none 0 0) := cell_of_row w g 0 _ 99 (0, 0) h
  clear h
  have hcs : (at' = 0 ∨ 0 < at') ∧ (n = 0 ∨ 0 < n) := by omega
  obtain ⟨rfl | hlt, rfl | hn0⟩ := hcs
  all_goals
    go_enter Tryz.func224, Tryz.ntmps224
    go_wp2_with fail
    go_quiet (fail)
    go_wp2_with fail
  all_goals
    refine (clone_nil _).mono ?_
    rintro e w2 ⟨rfl, rfl⟩
    go_wp2_with fail
    go_ret
    exact ⟨rfl, below_drewN (Below.refl _ _) nq⟩

/-- What Read answers of a file, in memory of its own. -/
theorem read_all (g : Nat) (v : Value) (s0 : Int) (bs : List (BitVec 8)) (at' n : Nat) (w : World) (h : w.heap[g]? = some (.cells #[v, .int .i64 s0] 99 (0, 0))) (hown : OwnB w v bs) (hL2 : bs.length ≤ 1073741824) (h1 : at' ≤ 9223372036854775807) (h2 : n ≤ 9223372036854775807) :
    Calls Tryz.prog 224 #[.pointer (some ⟨g, 0, none⟩), .int .i64 (at' : Nat), .int .i64 (n : Nat)] w fun e w' => ∃ a m c, e = .returned (.slice a m c) ∧ OwnB w' (.slice a m c) (readOf bs at' n) ∧ (∀ k, inRowV (.slice a m c) k → w.heap.size ≤ k) ∧ Below w.heap.size w w' := by
  rcases hown with ⟨rfl, rfl⟩ | ⟨k, c, L, rfl, rfl, hc, hrow⟩
  · refine (read_nil g s0 at' n w h h1 h2).mono ?_
    rintro e w' ⟨rfl, hb⟩
    refine ⟨none, 0, 0, rfl, .inl ⟨by simp [readOf], rfl⟩, fun k hk => ?_, hb⟩
    obtain ⟨_, _, e⟩ := hk
    cases e
  · rcases Nat.lt_or_ge at' bs.length with hlt | hge
    · refine (read_in g k c bs.length s0 bs at' n w h rfl hrow hc hL2 h1 h2 hlt).mono ?_
      rintro e w' ⟨q, m, cq, rfl, hm, hq, hcq, hr, hb⟩
      refine ⟨_, m, cq, rfl, .inr ⟨q, cq, m, rfl, hm, hcq, hr⟩, fun k hk => ?_, hb⟩
      obtain ⟨_, _, e⟩ := hk
      cases e
      exact hq
    · refine (read_past g k c bs.length s0 at' n w h hc hL2 h2 hge).mono ?_
      rintro e w' ⟨q, cq, rfl, hq, hr, hb⟩
      have hnil : readOf bs at' n = [] := by unfold readOf; rw [List.drop_eq_nil_of_le hge, List.take_nil]
      refine ⟨_, 0, cq, rfl, .inr ⟨q, cq, 0, rfl, by rw [hnil]; rfl, Nat.zero_le _, by rw [hnil]; exact hr⟩, fun k hk => ?_, hb⟩
      obtain ⟨_, _, e⟩ := hk
      cases e
      exact hq

set_option maxRecDepth 100000 in
set_option maxHeartbeats 1000000 in
theorem read1_all (g pa pn pb : Nat) (v : Value) (s0 : Int) (bs : List (BitVec 8)) (at' n : Nat) (w : World) (ha : w.cell? ⟨pa, 0, none⟩ = some (.int .i64 (at' : Nat))) (hn : w.cell? ⟨pn, 0, none⟩ = some (.int .i64 (n : Nat))) (hp : w.heap[pb]? = some (.cells #[.slice none 0 0] 28 (0, 0)))
    (h : w.heap[g]? = some (.cells #[v, .int .i64 s0] 99 (0, 0))) (hown : OwnB w v bs) (hL2 : bs.length ≤ 1073741824) (h1 : at' ≤ 9223372036854775807) (h2 : n ≤ 9223372036854775807) :
    Calls Tryz.prog 223 #[.pointer (some ⟨g, 0, none⟩), .pointer (some ⟨pa, 0, none⟩), .pointer (some ⟨pn, 0, none⟩), .pointer (some ⟨pb, 0, none⟩)] w fun e w' => e = .returned (.int .i64 0) ∧ ∃ a m c, w'.cell? ⟨pb, 0, none⟩ = some (.slice a m c) ∧ OwnB w' (.slice a m c) (readOf bs at' n) ∧ (∀ k, inRowV (.slice a m c) k → w.heap.size ≤ k) ∧ Turns (fun j => j = pb) w w' := by
  have H := hide h
  have HO := hide hown
  have HP := hide hp
  have hpw := lt_of_heap hp
  clear h hown hp
  go_enter Tryz.func223, Tryz.ntmps223
  go_wp2_with fail
  refine (read_all g v s0 bs at' n _ H.out HO.out hL2 h1 h2).mono ?_
  rintro e w1 ⟨a, m, c, rfl, ho, hq, hb⟩
  have HP1 := hide (heap_keep hb HP.out)
  have p0 : w1.cell? ⟨pb, 0, none⟩ = some (.slice none 0 0) := cell_of_row w1 pb 0 _ 28 (0, 0) HP1.out
  have z0 : w1.frozen? ⟨pb, 0, none⟩ = false := frozen_of_row w1 pb 0 _ 28 HP1.out
  have t1 := (TickV.refl HP1.out).set 0 (.slice a m c)
  have u1 := Turns.of_tickV t1
  have FIN : Hid ((w1.setCell ⟨pb, 0, none⟩ (.slice a m c)).cell? ⟨pb, 0, none⟩ = some (.slice a m c) ∧ OwnB (w1.setCell ⟨pb, 0, none⟩ (.slice a m c)) (.slice a m c) (readOf bs at' n) ∧ (∀ k, inRowV (.slice a m c) k → w.heap.size ≤ k) ∧ Turns (fun j => j = pb) w (w1.setCell ⟨pb, 0, none⟩ (.slice a m c))) :=
    ⟨t1.cell 0, ho.keep u1 (fun k hk (e : k = pb) => by have := hq k hk; omega), hq, (Turns.of_below hb _).trans u1⟩
  clear t1 u1 ho hq hb
  go_wp2_with fail
  go_ret
  exact ⟨rfl, a, m, c, FIN.out⟩
end Go.Proofs.YtjklbhdhjfifhaaGreat

/-
  Read goes through the guard, whatever its numbers are.
-/
namespace Go.Proofs.YtjklbhdhjfifhaaGreat
open Go.RowKit Go.Maps

set_option maxRecDepth 100000 in
set_option maxHeartbeats 4000000 in
theorem read_via_all (p : Option Addr) (name : ByteArray) (at' n : Int) (w : World) (R : Ending → World → Prop)
    (HR : ∀ w1, Turns (fun _ => False) w w1 → w1.cell? ⟨w.heap.size, 0, none⟩ = some (.int .i64 at') → w1.cell? ⟨w.heap.size + 1, 0, none⟩ = some (.int .i64 n) → w1.heap[w.heap.size + 2]? = some (.cells #[.slice none 0 0] 28 (0, 0)) → OnVars w1 (w.heap.size + 3) p name 223 #[.pointer (some ⟨w.heap.size, 0, none⟩), .pointer (some ⟨w.heap.size + 1, 0, none⟩), .pointer (some ⟨w.heap.size + 2, 0, none⟩)] →
      Calls Tryz.prog 59 #[.pointer p, .bool (goodN name && decide (0 ≤ at') && decide (0 ≤ n)), onVal (w.heap.size + 3)] w1 fun e w' => ∃ (z : Int) (v : Value), e = .returned (.int .i64 z) ∧ w'.cell? ⟨w.heap.size + 2, 0, none⟩ = some v ∧ R (.returned (.tuple #[v, .int .i64 z])) w') :
    Calls Tryz.prog 222 #[.pointer p, .string name, .int .i64 at', .int .i64 n] w R := by
  have hmf := makeF
  have HRR := hide HR
  clear HR
  have hT : Turns (fun _ => False) w (((w.alloc (.cells #[.int .i64 at'] 3)).alloc (.cells #[.int .i64 n] 3)).alloc (.cells #[.slice none 0 0] 28)) := (((Turns.refl _ w).alloc _).alloc _).alloc _
  have x0 : (((w.alloc (.cells #[.int .i64 at'] 3)).alloc (.cells #[.int .i64 n] 3)).alloc (.cells #[.slice none 0 0] 28)).cell? ⟨w.heap.size, 0, none⟩ = some (.int .i64 at') := cell_of_row _ _ 0 _ 3 (0, 0) ((heap_alloc_old _ _ (by simp; omega)).trans ((heap_alloc_old _ _ (by simp)).trans (heap_alloc_new w _)))
  have x1 : (((w.alloc (.cells #[.int .i64 at'] 3)).alloc (.cells #[.int .i64 n] 3)).alloc (.cells #[.slice none 0 0] 28)).cell? ⟨w.heap.size + 1, 0, none⟩ = some (.int .i64 n) := cell_of_row _ _ 0 _ 3 (0, 0) ((heap_alloc_old _ _ (by simp)).trans (heap_alloc2_new w _ _))
  have x2 : (((w.alloc (.cells #[.int .i64 at'] 3)).alloc (.cells #[.int .i64 n] 3)).alloc (.cells #[.slice none 0 0] 28)).heap[w.heap.size + 2]? = some (.cells #[.slice none 0 0] 28 (0, 0)) := by
    have := heap_alloc_new ((w.alloc (.cells #[.int .i64 at'] 3)).alloc (.cells #[.int .i64 n] 3)) (.cells #[.slice none 0 0] 28)
    rwa [show ((w.alloc (.cells #[.int .i64 at'] 3)).alloc (.cells #[.int .i64 n] 3)).heap.size = w.heap.size + 2 by simp] at this
  have hs1 : (((w.alloc (.cells #[.int .i64 at'] 3)).alloc (.cells #[.int .i64 n] 3)).alloc (.cells #[.slice none 0 0] 28)).heap.size = w.heap.size + 3 := by simp
  have HT := hide hT
  have X2 := hide x2
  clear hT x2
  go_enter Tryz.func222, Tryz.ntmps222
  go_wp2_with fail
  generalize ((w.alloc (.cells #[.int .i64 at'] 3)).alloc (.cells #[.int .i64 n] 3)).alloc (.cells #[.slice none 0 0] 28) = w1 at *
  generalize hpf : w.heap.size = pf at *
  refine (name_any name _).mono ?_
  rintro e w2 ⟨rfl, rfl⟩
  have hcase : goodN name = false ∨ (goodN name = true ∧ at' < 0) ∨ (goodN name = true ∧ ¬ at' < 0 ∧ n < 0) ∨ (goodN name = true ∧ ¬ at' < 0 ∧ ¬ n < 0) := by
    cases goodN name
    · exact .inl rfl
    · by_cases h1 : at' < 0
      · exact .inr (.inl ⟨rfl, h1⟩)
      · by_cases h2 : n < 0
        · exact .inr (.inr (.inl ⟨rfl, h1, h2⟩))
        · exact .inr (.inr (.inr ⟨rfl, h1, h2⟩))
  rcases hcase with e1 | ⟨e1, e2⟩ | ⟨e1, e2, e3⟩ | ⟨e1, e2, e3⟩
  · rw [e1, Bool.false_and, Bool.false_and] at HRR
    rw [e1]
    go_wp2_with fail
    refine (onFile_any p name 223 _ _).mono ?_
    rintro e w4 ⟨rfl, k0, k1, k2, ht⟩
    rw [hs1] at k0 k1 k2 ⊢
    have HV : Hid (OnVars w4 (pf + 3) p name 223 _) := ⟨k0, k1, k2⟩
    have HC := hide (HRR.out w4 (HT.out.trans ht) (ht.cell x0 (fun x => x)) (ht.cell x1 (fun x => x)) (ht.heap X2.out (fun x => x)) HV.out)
    clear k0 k1 k2 ht
    go_wp2_with fail
    refine HC.out.mono ?_
    rintro e w5 ⟨z, v, rfl, hc, hz⟩
    have HZ := hide hz
    clear hz
    go_wp2_with fail
    exact HZ.out
  · rw [e1, Bool.true_and, decide_eq_false (by omega), Bool.false_and] at HRR
    rw [e1]
    go_wp2_with fail
    refine (onFile_any p name 223 _ _).mono ?_
    rintro e w4 ⟨rfl, k0, k1, k2, ht⟩
    rw [hs1] at k0 k1 k2 ⊢
    have HV : Hid (OnVars w4 (pf + 3) p name 223 _) := ⟨k0, k1, k2⟩
    have HC := hide (HRR.out w4 (HT.out.trans ht) (ht.cell x0 (fun x => x)) (ht.cell x1 (fun x => x)) (ht.heap X2.out (fun x => x)) HV.out)
    clear k0 k1 k2 ht
    go_wp2_with fail
    refine HC.out.mono ?_
    rintro e w5 ⟨z, v, rfl, hc, hz⟩
    have HZ := hide hz
    clear hz
    go_wp2_with fail
    exact HZ.out
  · rw [e1, Bool.true_and, decide_eq_true (by omega), Bool.true_and, decide_eq_false (by omega)] at HRR
    rw [e1]
    go_wp2_with fail
    refine (onFile_any p name 223 _ _).mono ?_
    rintro e w4 ⟨rfl, k0, k1, k2, ht⟩
    rw [hs1] at k0 k1 k2 ⊢
    have HV : Hid (OnVars w4 (pf + 3) p name 223 _) := ⟨k0, k1, k2⟩
    have HC := hide (HRR.out w4 (HT.out.trans ht) (ht.cell x0 (fun x => x)) (ht.cell x1 (fun x => x)) (ht.heap X2.out (fun x => x)) HV.out)
    clear k0 k1 k2 ht
    go_wp2_with fail
    rw [decide_eq_false (show ¬ 0 ≤ n by omega)]
    refine HC.out.mono ?_
    rintro e w5 ⟨z, v, rfl, hc, hz⟩
    have HZ := hide hz
    clear hz
    go_wp2_with fail
    exact HZ.out
  · rw [e1, Bool.true_and, decide_eq_true (by omega), Bool.true_and, decide_eq_true (by omega)] at HRR
    rw [e1]
    go_wp2_with fail
    refine (onFile_any p name 223 _ _).mono ?_
    rintro e w4 ⟨rfl, k0, k1, k2, ht⟩
    rw [hs1] at k0 k1 k2 ⊢
    have HV : Hid (OnVars w4 (pf + 3) p name 223 _) := ⟨k0, k1, k2⟩
    have HC := hide (HRR.out w4 (HT.out.trans ht) (ht.cell x0 (fun x => x)) (ht.cell x1 (fun x => x)) (ht.heap X2.out (fun x => x)) HV.out)
    clear k0 k1 k2 ht
    go_wp2_with fail
    refine HC.out.mono ?_
    rintro e w5 ⟨z, v, rfl, hc, hz⟩
    have HZ := hide hz
    clear hz
    go_wp2_with fail
    exact HZ.out
end Go.Proofs.YtjklbhdhjfifhaaGreat
