import Derived.Test.YtjklbhdhjfifhaaGreatM38
import Derived.Test.YtjklbhdhjfifhaaGreatM13
import Derived.Test.YtjklbhdhjfifhaaGreatM09
import Derived.Test.YtjklbhdhjfifhaaGreatM31
import Derived.Test.YtjklbhdhjfifhaaGreatM25
import Derived.Deep.Light
import Derived.Test.YtjklbhdhjfifhaaGreatM34
import Derived.Test.YtjklbhdhjfifhaaGreatM29
/-
  A file system with one file, as a table reads it.
-/
namespace Go.Proofs.YtjklbhdhjfifhaaGreat
open Go.RowKit
set_option maxRecDepth 100000
set_option maxHeartbeats 4000000
/-- The name that the law's files have. -/
def nmT : ByteArray := ⟨#[116]⟩
theorem nmT_good : goodN nmT = true := by decide +kernel
/-- A file system that is on, without a fuse or a fault, with a file of that name and those bytes. -/
structure FsT (A : Nat → Prop) (w : World) (f : Nat) (nm : ByteArray) (bs : List (BitVec 8)) (K : Nat) : Prop where
  ex : ∃ d g x, Rep A w f d ∧ Num d ∧ d.on = true ∧ d.fuse < 0 ∧ d.fault < 0 ∧ d.ops ≤ (K : Int) ∧ fileOf d.names nm = some g ∧ d.files g = some x ∧ x.bytes = bs
theorem FsT.keep {A S : Nat → Prop} {w w' : World} {f : Nat} {nm : ByteArray} {bs : List (BitVec 8)} {K : Nat} (h : FsT A w f nm bs K) (t : Turns S w w') (hS : ∀ k, k < w.heap.size → A k → ¬ S k) : FsT A w' f nm bs K := by
  obtain ⟨d, g, x, h1, h2⟩ := h.ex
  exact ⟨d, g, x, h1.keep t hS, h2⟩
theorem FsT.quiet {A : Nat → Prop} {w w' : World} {f : Nat} {nm : ByteArray} {bs : List (BitVec 8)} {K : Nat} (h : FsT A w f nm bs K) (t : Turns (fun _ => False) w w') : FsT A w' f nm bs K := h.keep t fun _ _ _ x => x
theorem Num.tick {d : Disk} (h : Num d) (h1 : d.ops ≤ 999999) (h2 : d.fuse < 0) (h3 : d.fault < 0) : Num d.tick :=
  { h with
    ops := ⟨by show 0 ≤ d.ops + 1; have := h.ops.1; omega, by show d.ops + 1 ≤ 1000000; omega⟩
    fuse := by show YtjklbhdhjfifhaaGreat.tick d.fuse ≤ _; unfold YtjklbhdhjfifhaaGreat.tick; rw [if_pos h2]; exact h.fuse
    fault := by show YtjklbhdhjfifhaaGreat.tick d.fault ≤ _; unfold YtjklbhdhjfifhaaGreat.tick; rw [if_pos h3]; exact h.fault }
theorem guard_none {d : Disk} {r : Bool} (hr : r = true) (h1 : d.on = true) (h2 : d.fuse < 0) (h3 : d.fault < 0) : (d.guard r).1 = none := by
  unfold Disk.guard
  rw [if_neg (by simp [hr]), if_neg (by simp [h1]), if_neg (by omega), if_neg (by omega)]
theorem tick_neg {n : Int} (h : n < 0) : YtjklbhdhjfifhaaGreat.tick n = n := by unfold YtjklbhdhjfifhaaGreat.tick; rw [if_pos h]
/-- Read of a file that is there. -/
theorem fsRead_ok (A : Nat → Prop) (f : Nat) (nm : ByteArray) (bs : List (BitVec 8)) (K i n : Nat) (w : World) (h : FsT A w f nm bs K) (hnm : goodN nm = true) (hns : nm.size ≤ 64) (hK : K ≤ 999999) (hi : i ≤ 1000000000) (hn : n ≤ 1000000000) :
    Calls Tryz.prog 222 #[.pointer (some ⟨f, 0, none⟩), .string nm, .int .i64 (i : Nat), .int .i64 (n : Nat)] w fun e w' => ∃ v, e = .returned (.tuple #[v, .int .i64 0]) ∧ Fresh w.heap.size w' v (readOf bs i n) ∧ FsT A w' f nm bs (K + 1) ∧ Turns A w w' := by
  obtain ⟨d, g, x, h1, h2, h3, h4, h5, h6, h7, h8, h9⟩ := h.ex
  have hr : Disk.right nm (i : Int) (n : Int) = true := by simp [Disk.right, hnm]
  have hg := guard_none hr h3 h4 h5
  refine read_rep A f d nm i n w h1 h2 (by unfold maxLen; omega) (by omega) (by omega) _ ?_ ?_ ?_
  · intro z w' hz
    rw [hg] at hz
    cases hz
  · intro _ hf
    rw [h7] at hf
    cases hf
  · intro _ g' x' w' a m c hf hx ho hin hrep ht
    rw [h7] at hf
    cases hf
    rw [h8] at hx
    cases hx
    refine ⟨_, rfl, ?_, ⟨d.tick, g, x, hrep, h2.tick (by omega) h4 h5, h3, by show YtjklbhdhjfifhaaGreat.tick d.fuse < 0; rw [tick_neg h4]; exact h4, by show YtjklbhdhjfifhaaGreat.tick d.fault < 0; rw [tick_neg h5]; exact h5, by show d.ops + 1 ≤ ((K + 1 : Nat) : Int); omega, h7, h8, h9⟩, ht⟩
    rw [h9, Int.toNat_natCast, Int.toNat_natCast] at ho
    rcases ho with ⟨e1, e2⟩ | ⟨g2, c2, n2, e1, e2, e3, e4⟩
    · exact .inl ⟨e1, e2⟩
    · exact .inr ⟨g2, n2, c2, e1, e2, e3, hin g2 ⟨n2, c2, e1⟩, e4⟩
theorem fileRead_ok (A : Nat → Prop) (f : Nat) (nm : ByteArray) (bs : List (BitVec 8)) (K i n : Nat) (w : World) (h : FsT A w f nm bs K) (hnm : goodN nm = true) (hns : nm.size ≤ 64) (hK : K ≤ 999999) (hi : i ≤ 1000000000) (hn : n ≤ 1000000000) :
    Calls Tryz.prog 221 #[.agg #[.pointer (some ⟨f, 0, none⟩), .string nm], .int .i64 (i : Nat), .int .i64 (n : Nat)] w fun e w' => ∃ v, e = .returned (.tuple #[v, .int .i64 0]) ∧ Fresh w.heap.size w' v (readOf bs i n) ∧ FsT A w' f nm bs (K + 1) ∧ Turns A w w' := by
  have t0 := (Turns.refl (fun _ => False) w).alloc (.cells #[.pointer (some ⟨f, 0, none⟩), .string nm] 83)
  have RD := hide (fsRead_ok A f nm bs K i n _ (h.quiet t0) hnm hns hK hi hn)
  have T0 := hide t0
  clear h t0
  go_enter Tryz.func221, Tryz.ntmps221
  go_wp2_with fail
  refine RD.out.mono ?_
  rintro e w1 ⟨v, rfl, hf, hF, ht⟩
  have HF := hide (hf.le T0.out.size)
  have HFS := hide hF
  have HT := hide ((T0.out.mono (fun _ _ x => x.elim)).trans ht)
  clear hf hF ht RD
  go_wp2_with fail
  go_ret2
  exact ⟨v, rfl, HF.out, HFS.out, HT.out⟩
end Go.Proofs.YtjklbhdhjfifhaaGreat

/-
  The frame between two places of a table's file.
-/
namespace Go.Proofs.YtjklbhdhjfifhaaGreat
open Go.RowKit
set_option maxRecDepth 100000
set_option maxHeartbeats 4000000
theorem readFrame_ok (A : Nat → Prop) (t f : Nat) (nm : ByteArray) (bs : List (BitVec 8)) (K i j : Nat) (k : BitVec 8) (body : List (BitVec 8)) (w : World) (hc : w.cell? ⟨t, 0, none⟩ = some (.iface 83 (.agg #[.pointer (some ⟨f, 0, none⟩), .string nm]))) (h : FsT A w f nm bs K) (hnm : goodN nm = true) (hns : nm.size ≤ 64) (hK : K ≤ 999999) (hij : i ≤ j) (hj : j ≤ 1000000000)
    (hF : readOf bs i (j - i) = Fr.frameB k body) (hb : body.length ≤ 1048576) (hjl : j - i = body.length + 12) :
    Calls Tryz.prog 55 #[.pointer (some ⟨t, 0, none⟩), .int .u8 k.toNat, .int .i64 (i : Nat), .int .i64 (j : Nat)] w fun e w' => ∃ v, e = .returned (.tuple #[v, .int .i64 0]) ∧ Fresh w.heap.size w' v body ∧ FsT A w' f nm bs (K + 1) ∧ Turns A w w' := by
  have RD := hide (fileRead_ok A f nm bs K i (j - i) w h hnm hns hK (by omega) (by omega))
  rw [hF] at RD
  have HHJ := hide (show ((j - i : Nat) : Int) = (j : Int) - (i : Int) by omega)
  rw [HHJ.out] at RD
  have hfl := Fr.fault_frame k body [] hb
  have hln := Fr.frame_len k body [] hb
  have hbd := Fr.frame_body k body [] hb
  rw [List.append_nil] at hfl hln hbd
  have hk0 : (Fr.frameB k body).getD 0 0 = k := rfl
  have hfb := Fr.frameB_length k body
  clear h hF
  have G1 := hide (show (j : Int) - (i : Int) = ((body.length + 12 : Nat) : Int) by omega)
  have HFB := hide hfb
  have HJL := hide hjl
  clear hfb hjl
  go_enter Tryz.func55, Tryz.ntmps55
  go_wp2_with fail
  refine RD.out.mono ?_
  rintro e w1 ⟨v, rfl, hf, hFs, ht⟩
  have hfresh := hf
  rcases hf with ⟨e0, _⟩ | ⟨g, n, c, rfl, hn, hnc, hg, hr⟩
  · have hfb := HFB.out
    rw [e0] at hfb
    simp at hfb
  have RW := hide (read_whole g 0 n c (Fr.frameB k body) w1 (hr.bytes hn) hnc (by have := HFB.out; unfold maxLen; omega) hfl)
  rw [hln, hbd, hk0] at RW
  have HFS := hide hFs
  have HT := hide ht
  have hs1 := ht.size
  have HG := hide hg
  clear RD hfresh hr hFs ht hfl hln hbd hk0 hn hg hnc
  go_wp2_with fail
  refine RW.out.mono ?_
  rintro e w2 ⟨g2, cp, rfl, hg2, hcp, hr2, b2⟩
  have HFS := hide (HFS.out.quiet (Turns.of_below b2 (fun _ => False)))
  have HT := hide (HT.out.trans (Turns.of_below b2 (fun k => A k)))
  have hs2 := b2.size
  have FR := hide (show Fresh w.heap.size w2 (.slice (some ⟨g2, 0, none⟩) body.length cp) body from .inr ⟨g2, _, cp, rfl, rfl, hcp, by have := HG.out; omega, hr2⟩)
  clear b2 hr2 RW
  have g1 := G1.out
  have b3 : Below w2.heap.size w2 (w2.alloc (.cells #[.int .u8 (k.toNat : Int), .slice (some ⟨g2, 0, none⟩) body.length cp] 135)) := (Below.refl _ _).alloc (Nat.le_refl _) _
  have FR := hide (FR.out.below b3)
  have HFS := hide (HFS.out.quiet (Turns.of_below b3 (fun _ => False)))
  have HT := hide (HT.out.trans (Turns.of_below b3 (fun k => A k)))
  clear b3
  go_wp2_with fail
  go_ret2
  exact ⟨_, rfl, FR.out, HFS.out, HT.out⟩
end Go.Proofs.YtjklbhdhjfifhaaGreat

/-
  A table that was opened; a block of it is read.
-/
namespace Go.Proofs.YtjklbhdhjfifhaaGreat
open Go.RowKit
set_option maxRecDepth 100000
set_option maxHeartbeats 4000000
/-- What a table's index tells of itself, as it lies in memory. -/
structure Inf where
  i1 : Value
  i2 : Value
  i3 : Value
  i4 : Value
  i5 : Value
  i6 : Value
  i7 : Value
def tabCells (f : Nat) (nm : ByteArray) (pv : Value) (x : Inf) (fv : Value) (rd : Nat) : Array Value :=
  #[.iface 83 (.agg #[.pointer (some ⟨f, 0, none⟩), .string nm]), pv, x.i1, x.i2, x.i3, x.i4, x.i5, x.i6, x.i7, fv, .int .i64 (rd : Nat)]
/-- A table that was opened: its blocks' places, its filter, how many blocks were read. -/
structure TabT (A : Nat → Prop) (B : Nat) (w : World) (t f : Nat) (nm : ByteArray) (bs : List (BitVec 8)) (K : Nat) (pl : List Plc) (flt : List (BitVec 8)) (x : Inf) (rd : Nat) : Prop where
  ex : ∃ (pa fa : Option Addr) (pc fc : Nat), w.heap[t]? = some (.cells (tabCells f nm (.slice pa pl.length pc) x (.slice fa flt.length fc) rd) 57 (0, 0)) ∧ PRow w 0 (.slice pa pl.length pc) pl ∧ (∀ k, inRow (.slice pa pl.length pc) k → ¬ A k ∧ k ≠ t ∧ k < B) ∧ Bytes w (.slice fa flt.length fc) flt ∧ ∀ a, fa = some a → ¬ A a.block ∧ a.block ≠ t ∧ a.block < B
  keys : ∀ p, p ∈ pl → Bytes w p.t.kv p.t.e.key ∧ ∀ a, p.t.ka = some a → ¬ A a.block ∧ a.block ≠ t ∧ a.block < B
  fs : FsT A w f nm bs K
  nt : ¬ A t
  ab : ∀ k, A k → k < w.heap.size
section
variable {A : Nat → Prop} {B : Nat} {w w' : World} {t f : Nat} {nm : ByteArray} {bs : List (BitVec 8)} {K : Nat} {pl : List Plc} {flt : List (BitVec 8)} {x : Inf} {rd : Nat}
theorem TabT.read (h : TabT A B w t f nm bs K pl flt x rd) (hF : FsT A w' f nm bs (K + 1)) (tt : Turns A w w') : TabT A B w' t f nm bs (K + 1) pl flt x rd := by
  obtain ⟨pa, fa, pc, fc, h1, h2, h3, h4, h5⟩ := h.ex
  refine ⟨⟨pa, fa, pc, fc, tt.heap h1 h.nt, h2.keep tt (fun k hk => (h3 k hk).1), h3, h4.turns tt (fun a n c e => (h5 a (by cases e; rfl)).1), h5⟩, fun p hp => ⟨(h.keys p hp).1.turns tt (fun a n c e => ((h.keys p hp).2 a (by simp only [Tow.kv, Value.slice.injEq] at e; exact e.1)).1), (h.keys p hp).2⟩, hF, h.nt, fun k hk => Nat.lt_of_lt_of_le (h.ab k hk) tt.size⟩
theorem TabT.quiet (h : TabT A B w t f nm bs K pl flt x rd) (tt : Turns (fun _ => False) w w') : TabT A B w' t f nm bs K pl flt x rd := by
  obtain ⟨pa, fa, pc, fc, h1, h2, h3, h4, h5⟩ := h.ex
  exact ⟨⟨pa, fa, pc, fc, tt.heap h1 (fun x => x), h2.keep tt (fun _ _ x => x), h3, h4.quiet tt, h5⟩, fun p hp => ⟨(h.keys p hp).1.quiet tt, (h.keys p hp).2⟩, h.fs.quiet tt, h.nt, fun k hk => Nat.lt_of_lt_of_le (h.ab k hk) tt.size⟩
theorem TabT.count (h : TabT A B w t f nm bs K pl flt x rd) (n : Nat) : TabT A B (w.setCell ⟨t, 10, none⟩ (.int .i64 (n : Nat))) t f nm bs K pl flt x n ∧ Turns (fun k => k = t) w (w.setCell ⟨t, 10, none⟩ (.int .i64 (n : Nat))) := by
  obtain ⟨pa, fa, pc, fc, h1, h2, h3, h4, h5⟩ := h.ex
  have hT := (Tick.refl h1).set 10 (.int .i64 (n : Nat))
  have tt := Turns.of_tick hT
  exact ⟨⟨⟨pa, fa, pc, fc, hT.1, h2.keep tt (fun k hk => (h3 k hk).2.1), h3, h4.turns tt (fun a n c e => (h5 a (by cases e; rfl)).2.1), h5⟩, fun p hp => ⟨(h.keys p hp).1.turns tt (fun a n c e => ((h.keys p hp).2 a (by simp only [Tow.kv, Value.slice.injEq] at e; exact e.1)).2.1), (h.keys p hp).2⟩, h.fs.keep tt (fun k _ ha he => h.nt (by rw [← he]; exact ha)), h.nt, fun k hk => Nat.lt_of_lt_of_le (h.ab k hk) tt.size⟩, tt⟩
/-- What is new does not touch it. -/
theorem TabT.over (h : TabT A B w t f nm bs K pl flt x rd) {S : Nat → Prop} (tt : Turns S w w') (hS : ∀ k, S k → B ≤ k ∧ ¬ A k ∧ k ≠ t) : TabT A B w' t f nm bs K pl flt x rd := by
  obtain ⟨pa, fa, pc, fc, h1, h2, h3, h4, h5⟩ := h.ex
  refine ⟨⟨pa, fa, pc, fc, tt.heap h1 (fun e => (hS _ e).2.2 rfl), h2.keep tt (fun k hk e => ?_), h3, h4.turns tt (fun a n c e he => ?_), h5⟩, fun p hp => ⟨(h.keys p hp).1.turns tt (fun a n c e he => ?_), (h.keys p hp).2⟩, h.fs.keep tt (fun k _ ha he => (hS k he).2.1 ha), h.nt, fun k hk => Nat.lt_of_lt_of_le (h.ab k hk) tt.size⟩
  · exact absurd (hS k e).1 (Nat.not_le.2 (h3 k hk).2.2)
  · exact absurd (hS _ he).1 (Nat.not_le.2 (h5 a (by cases e; rfl)).2.2)
  · exact absurd (hS _ he).1 (Nat.not_le.2 ((h.keys p hp).2 a (by simp only [Tow.kv, Value.slice.injEq] at e; exact e.1)).2.2)
theorem TabT.src (h : TabT A B w t f nm bs K pl flt x rd) : w.cell? ⟨t, 0, none⟩ = some (.iface 83 (.agg #[.pointer (some ⟨f, 0, none⟩), .string nm])) := by
  obtain ⟨pa, fa, pc, fc, h1, _⟩ := h.ex
  exact cell_of_row w t 0 _ 57 (0, 0) h1
end
theorem ERow.le {w : World} {B B' : Nat} {v : Value} {R : List Tow} (h : ERow w B v R) (hB : B' ≤ B) : ERow w B' v R := by
  rcases h with h | ⟨g, c, n, h1, h2, h3, h4, h5⟩
  · exact .inl h
  · exact .inr ⟨g, c, n, h1, h2, h3, Nat.le_trans hB h4, h5⟩
theorem Shown.le {w : World} {B B' : Nat} {R : List Tow} (h : Shown w B R) (hB : B' ≤ B) : Shown w B' R := fun x hx => ⟨(h x hx).1, (h x hx).2.1, fun q hq => ⟨Nat.le_trans hB ((h x hx).2.2 q hq).1, ((h x hx).2.2 q hq).2⟩⟩
def Box6 (u : World) (g pos size : Nat) (e : Ent) (ka : Option Addr) (kc : Nat) (va : Option Addr) (vc : Nat) : Prop :=
  u.cell? ⟨g, 0, none⟩ = some (.int .i64 (pos : Nat)) ∧ u.cell? ⟨g, 1, none⟩ = some (.int .i64 (size : Nat)) ∧ u.cell? ⟨g, 2, none⟩ = some (.slice ka e.key.length kc) ∧ u.cell? ⟨g, 3, none⟩ = some (.int .u64 (e.seq : Nat)) ∧ u.cell? ⟨g, 4, none⟩ = some (.int .i64 e.kind) ∧ u.cell? ⟨g, 5, none⟩ = some (.slice va e.val.length vc)
def Cmp8 (u : World) (b7 off7 m : Nat) (yka : Option Addr) (ykc : Nat) (ye : Ent) (yva : Option Addr) (yvc gp : Nat) (ka : Option Addr) (kc : Nat) (e : Ent) (va : Option Addr) (vc : Nat) : Prop :=
  u.cell? ⟨b7, off7 + m * 4, none⟩ = some (.slice yka ye.key.length ykc) ∧ u.cell? ⟨b7, off7 + m * 4 + 1, none⟩ = some (.int .u64 (ye.seq : Nat)) ∧ u.cell? ⟨b7, off7 + m * 4 + 2, none⟩ = some (.int .i64 ye.kind) ∧ u.cell? ⟨b7, off7 + m * 4 + 3, none⟩ = some (.slice yva ye.val.length yvc) ∧
    u.cell? ⟨gp, 2, none⟩ = some (.slice ka e.key.length kc) ∧ u.cell? ⟨gp, 3, none⟩ = some (.int .u64 (e.seq : Nat)) ∧ u.cell? ⟨gp, 4, none⟩ = some (.int .i64 e.kind) ∧ u.cell? ⟨gp, 5, none⟩ = some (.slice va e.val.length vc)
theorem readBlock_ok (A : Nat → Prop) (B : Nat) (w : World) (t f : Nat) (nm : ByteArray) (bs : List (BitVec 8)) (K : Nat) (pl : List Plc) (flt : List (BitVec 8)) (x : Inf) (rd i : Nat) (p : Plc) (es : List Ent) (h : TabT A B w t f nm bs K pl flt x rd) (hnm : goodN nm = true) (hns : nm.size ≤ 64) (hK : K ≤ 999999) (hrd : rd ≤ 1000000) (hp : pl[i]? = some p)
    (hF : readOf bs p.pos p.size = Fr.frameB 2#8 (blkB es)) (hsz : p.size = (blkB es).length + 12) (hpe : p.pos + p.size ≤ 1000000000) (hbl : (blkB es).length ≤ 40000) (hpk : parseK (blkB es) = some es) (hne : es ≠ []) (hel : es.length ≤ 1000000) (e0 : Ent) (hlast : es.getLast? = some e0) (hen : e0.en = p.t.e.en) :
    Calls Tryz.prog 44 #[.pointer (some ⟨t, 0, none⟩), .int .i64 (i : Nat)] w fun oo w' => ∃ (a : Option Addr) (c : Nat) (R : List Tow), oo = .returned (.tuple #[.slice a R.length c, .int .i64 0]) ∧ ents R = es ∧ ERow w' w.heap.size (.slice a R.length c) R ∧ Shown w' w.heap.size R ∧ TabT A B w' t f nm bs (K + 1) pl flt x (rd + 1) ∧ Turns (fun k => A k ∨ k = t) w w' := by
  obtain ⟨pa, fa, pc, fc, h1, h2, h3, h4, h5⟩ := h.ex
  have hi : i < pl.length := (List.getElem?_eq_some_iff.1 hp).1
  have c10 : w.cell? ⟨t, 10, none⟩ = some (.int .i64 (rd : Nat)) := cell_of_row w t 10 _ 57 (0, 0) h1
  have f10 := frozen_of_row w t 10 _ 57 h1
  obtain ⟨hT1, tt1⟩ := h.count (rd + 1)
  have HT1 := hide hT1
  have TT1 := hide tt1
  have hcast : ((rd + 1 : Nat) : Int) = (rd : Int) + 1 := by omega
  rw [hcast] at HT1 TT1
  clear h1 h2 h3 h4 h5 hT1 tt1 hcast h
  go_enter Tryz.func44, Tryz.ntmps44
  go_upto_region 2 with (fail)
  generalize w.setCell ⟨t, 10, none⟩ (.int .i64 ((rd : Int) + 1)) = w1 at *
  obtain ⟨pa, fa, pc, fc, h1, h2, h3, h4, h5⟩ := HT1.out.ex
  obtain ⟨g, c, hv, hcell⟩ := h2.at_ hp
  obtain ⟨rfl, rfl⟩ : pa = some ⟨g, 0, none⟩ ∧ pc = c := by cases hv; exact ⟨rfl, rfl⟩
  have c1 : w1.cell? ⟨t, 1, none⟩ = some (.slice (some ⟨g, 0, none⟩) pl.length pc) := cell_of_row w1 t 1 _ 57 (0, 0) h1
  have hkey := (HT1.out.keys p (List.mem_of_getElem? hp)).1
  obtain ⟨pos, size, ka, kc, va, vc, e⟩ := p
  have p0 : w1.cell? ⟨g, i * 6, none⟩ = some (.int .i64 (pos : Nat)) := hcell 0 _ rfl
  have p1 : w1.cell? ⟨g, i * 6 + 1, none⟩ = some (.int .i64 (size : Nat)) := hcell 1 _ rfl
  have p2 : w1.cell? ⟨g, i * 6 + 2, none⟩ = some (.slice ka e.key.length kc) := hcell 2 _ rfl
  have p3 : w1.cell? ⟨g, i * 6 + 3, none⟩ = some (.int .u64 (e.seq : Nat)) := hcell 3 _ rfl
  have p4 : w1.cell? ⟨g, i * 6 + 4, none⟩ = some (.int .i64 e.kind) := hcell 4 _ rfl
  have p5 : w1.cell? ⟨g, i * 6 + 5, none⟩ = some (.slice va e.val.length vc) := hcell 5 _ rfl
  have KY := hide (show Bytes w1 (.slice ka e.key.length kc) e.key from hkey)
  have KA := hide (show ∀ a, ka = some a → ¬ A a.block from fun a ha => ((HT1.out.keys _ (List.mem_of_getElem? hp)).2 a ha).1)
  have i0 : (0 : Int) ≤ (i : Int) := by omega
  have i1 : (i : Int) < (pl.length : Int) := by omega
  clear h1 h2 h3 h4 h5 hcell hv hkey c10 f10
  go_upto_region 3 with (fail)
  have HBX := hide (heap_alloc_new w1 (.cells #[.int .i64 (pos : Nat), .int .i64 (size : Nat), .slice ka e.key.length kc, .int .u64 (e.seq : Nat), .int .i64 e.kind, .slice va e.val.length vc] 147))
  have TA := hide ((Turns.refl (fun _ => False) w1).alloc (.cells #[.int .i64 (pos : Nat), .int .i64 (size : Nat), .slice ka e.key.length kc, .int .u64 (e.seq : Nat), .int .i64 e.kind, .slice va e.val.length vc] 147))
  clear p0 p1 p2 p3 p4 p5 c1
  generalize w1.alloc (.cells #[.int .i64 (pos : Nat), .int .i64 (size : Nat), .slice ka e.key.length kc, .int .u64 (e.seq : Nat), .int .i64 e.kind, .slice va e.val.length vc] 147) = w2 at *
  have NG := hide (show ¬ A w1.heap.size from fun ha => by have := HT1.out.ab _ ha; omega)
  generalize hgp : w1.heap.size = gp at HBX NG ⊢
  have HGP := hide hgp
  clear hgp
  have HTB := hide (HT1.out.quiet TA.out)
  have KY := hide (KY.out.quiet TA.out)
  have SK := hide (fun (u : World) (tq : Turns A w2 u) => show Box6 u gp pos size e ka kc va vc from by
    have hb := tq.heap HBX.out NG.out
    exact ⟨cell_of_row u gp 0 _ 147 (0, 0) hb, cell_of_row u gp 1 _ 147 (0, 0) hb, cell_of_row u gp 2 _ 147 (0, 0) hb, cell_of_row u gp 3 _ 147 (0, 0) hb, cell_of_row u gp 4 _ 147 (0, 0) hb, cell_of_row u gp 5 _ 147 (0, 0) hb⟩)
  have PE := hide (fun (u : World) => placeEnd_any ⟨pos, size, ⟨ka, kc, va, vc, e⟩⟩ hpe u)
  have RF := hide (fun (u : World) (hu : TabT A B u t f nm bs K pl flt x (rd + 1)) => readFrame_ok A t f nm bs K pos (pos + size) 2#8 (blkB es) u hu.src hu.fs hnm hns hK (by omega) hpe (by rw [show pos + size - pos = size by omega]; exact hF) (by omega) (by rw [show pos + size - pos = size by omega]; exact hsz))
  have HSZ := hide (show w.heap.size ≤ w2.heap.size from by have := TT1.out.size; have := TA.out.size; omega)
  have HPK := hide hpk
  have HLAST := hide hlast
  have HEN := hide hen
  have HBL := hide hbl
  clear hF hsz hpk hlast hen hbl HT1 hp
  go_cut [7, 8] from 25 to 33 (fun v7 v8 wx => ∃ v5, v7 = v5 ∧ v8 = .int .i64 0 ∧ Fresh w.heap.size wx v5 (blkB es) ∧ TabT A B wx t f nm bs (K + 1) pl flt x (rd + 1) ∧ Turns A w2 wx)
  case first =>
    rename_i kk rest jj kk' m1 m2
    clear rest
    have tV : Turns A w2 w2.drew := (Turns.refl _ _).drew
    have HTB := hide (HTB.out.quiet (Turns.refl (fun _ => False) w2).drew)
    refine wp_region_held_drew (S := fun u => Box6 u gp pos size e ka kc va vc) (by kernel_rfl) (SK.out _ tV) (fun _ => ?_)
    change wpAnyH _ _ _ _ _ 11 (Array.replicate 11 false) _ _
    refine wpAnyH_take (i := 0) (oi := { dst := some 26, op := Op.move (Operand.tmp 0), type := 22, pos := "read.go:67", after := #[], guard := none }) (v := .pointer (some ⟨t, 0, none⟩)) rfl (by kernel_rfl) (by kernel_rfl) (by kernel_rfl) (fun _ _ _ h => h) (Or.inl ⟨by rfl, ?_⟩) (SK.out _ tV) ?_
    · rintro w ⟨q0, q1, q2, q3, q4, q5⟩
      go_simp
    simp only [Act.put, List.setIfInBounds_toArray, List.set_cons_zero, List.set_cons_succ]
    refine wpAnyH_take (i := 1) (oi := { dst := some 27, op := Op.fieldAddr 147 (Operand.tmp 6) 0, type := 0, pos := "read.go:67", after := #[], guard := none }) (v := .pointer (some ⟨gp, 0, none⟩)) rfl (by kernel_rfl) (by kernel_rfl) (by kernel_rfl) (fun _ _ _ h => h) (Or.inl ⟨by rfl, ?_⟩) (SK.out _ tV) ?_
    · rintro w ⟨q0, q1, q2, q3, q4, q5⟩
      go_simp
    simp only [Act.put, List.setIfInBounds_toArray, List.set_cons_zero, List.set_cons_succ]
    refine wpAnyH_take (i := 2) (oi := { dst := some 28, op := Op.load 3 (Operand.tmp 27), type := 3, pos := "read.go:67", after := #[{ on := 1, ground := Ground.data }], guard := none }) (v := .int .i64 (pos : Nat)) rfl (by kernel_rfl) (by kernel_rfl) (by kernel_rfl) (fun _ _ _ h => h) (Or.inl ⟨by rfl, ?_⟩) (SK.out _ tV) ?_
    · rintro w ⟨q0, q1, q2, q3, q4, q5⟩
      go_simp
    simp only [Act.put, List.setIfInBounds_toArray, List.set_cons_zero, List.set_cons_succ]
    refine wpAnyH_take (i := 3) (oi := { dst := some 29, op := Op.load 147 (Operand.tmp 6), type := 147, pos := "read.go:67", after := #[], guard := none }) (v := .agg #[.int .i64 (pos : Nat), .int .i64 (size : Nat), .slice ka e.key.length kc, .int .u64 (e.seq : Nat), .int .i64 e.kind, .slice va e.val.length vc]) rfl (by kernel_rfl) (by kernel_rfl) (by kernel_rfl) (fun _ _ _ h => h) (Or.inl ⟨by rfl, ?_⟩) (SK.out _ tV) ?_
    · rintro w ⟨q0, q1, q2, q3, q4, q5⟩
      go_simp
    simp only [Act.put, List.setIfInBounds_toArray, List.set_cons_zero, List.set_cons_succ]
    refine wpAnyH_ready (rs := [4]) (by kernel_rfl) (by simp) ?_
    refine AllReadyH.cons rfl (fun K hK => ?_) AllReadyH.nil
    go_simp
    refine (PE.out _).mono ?_
    rintro oo Vn ⟨rfl, b2⟩
    have tN := Turns.of_below b2 A
    have tV := tV.trans tN
    have HTB := hide (HTB.out.quiet (Turns.of_below b2 (fun _ => False)))
    have HZ4 := hide tV.size
    clear b2 PE
    clear tN
    go_simp
    refine hK.out _ _ (SK.out _ tV) (fun _ => ?_)
    clear hK K
    refine wpAnyH_ready (rs := [5]) (by kernel_rfl) (by simp) ?_
    refine AllReadyH.cons rfl (fun K hK => ?_) AllReadyH.nil
    go_simp
    refine (RF.out _ HTB.out).mono ?_
    rintro oo Vn ⟨v5, rfl, hf5, hF5, ht5⟩
    have tN := ht5
    have tV := tV.trans tN
    have HTB := hide (HTB.out.read hF5 ht5)
    have F5 := hide hf5
    clear hf5 hF5 ht5 RF
    clear tN
    go_simp
    refine hK.out _ _ (SK.out _ tV) (fun _ => ?_)
    clear hK K
    refine wpAnyH_take (i := 6) (oi := { dst := some 25, op := Op.move (Operand.tmp 31), type := 29, pos := "read.go:67", after := #[{ on := 5, ground := Ground.data }], guard := none }) (v := .tuple #[v5, .int .i64 0]) rfl (by kernel_rfl) (by kernel_rfl) (by kernel_rfl) (fun _ _ _ h => h) (Or.inl ⟨by rfl, ?_⟩) (SK.out _ tV) ?_
    · rintro w ⟨q0, q1, q2, q3, q4, q5⟩
      go_simp
    simp only [Act.put, List.setIfInBounds_toArray, List.set_cons_zero, List.set_cons_succ]
    refine wpAnyH_take (i := 7) (oi := { dst := some 32, op := Op.extract (Operand.tmp 25) 0, type := 28, pos := "read.go:67", after := #[{ on := 6, ground := Ground.data }], guard := none }) (v := v5) rfl (by kernel_rfl) (by kernel_rfl) (by kernel_rfl) (fun _ _ _ h => h) (Or.inl ⟨by rfl, ?_⟩) (SK.out _ tV) ?_
    · rintro w ⟨q0, q1, q2, q3, q4, q5⟩
      go_simp
    simp only [Act.put, List.setIfInBounds_toArray, List.set_cons_zero, List.set_cons_succ]
    refine wpAnyH_take (i := 8) (oi := { dst := some 33, op := Op.extract (Operand.tmp 25) 1, type := 23, pos := "read.go:67", after := #[{ on := 6, ground := Ground.data }, { on := 9, ground := Ground.gcOnly Departure.lateStores }], guard := none }) (v := .int .i64 0) rfl (by kernel_rfl) (by kernel_rfl) (by kernel_rfl) (fun _ _ _ h => h) (Or.inl ⟨by rfl, ?_⟩) (SK.out _ tV) ?_
    · rintro w ⟨q0, q1, q2, q3, q4, q5⟩
      go_simp
    simp only [Act.put, List.setIfInBounds_toArray, List.set_cons_zero, List.set_cons_succ]
    refine wpAnyH_take (i := 9) (oi := { dst := some 7, op := Op.assign (Operand.tmp 32), type := 28, pos := "read.go:67", after := #[{ on := 7, ground := Ground.data }, { on := 5, ground := Ground.chain }, { on := 0, ground := Ground.phase }, { on := 1, ground := Ground.phase }, { on := 2, ground := Ground.phase }, { on := 3, ground := Ground.phase }, { on := 4, ground := Ground.phase }, { on := 5, ground := Ground.phase }, { on := 6, ground := Ground.phase }, { on := 7, ground := Ground.phase }, { on := 8, ground := Ground.textOnly Departure.lateStores }], guard := none }) (v := v5) rfl (by kernel_rfl) (by kernel_rfl) (by kernel_rfl) (fun _ _ _ h => h) (Or.inl ⟨by rfl, ?_⟩) (SK.out _ tV) ?_
    · rintro w ⟨q0, q1, q2, q3, q4, q5⟩
      go_simp
    simp only [Act.put, List.setIfInBounds_toArray, List.set_cons_zero, List.set_cons_succ]
    refine wpAnyH_take (i := 10) (oi := { dst := some 8, op := Op.assign (Operand.tmp 33), type := 23, pos := "read.go:67", after := #[{ on := 8, ground := Ground.data }, { on := 9, ground := Ground.chain }, { on := 0, ground := Ground.phase }, { on := 1, ground := Ground.phase }, { on := 2, ground := Ground.phase }, { on := 3, ground := Ground.phase }, { on := 4, ground := Ground.phase }, { on := 5, ground := Ground.phase }, { on := 6, ground := Ground.phase }, { on := 7, ground := Ground.phase }, { on := 8, ground := Ground.phase }, { on := 9, ground := Ground.phase }], guard := none }) (v := .int .i64 0) rfl (by kernel_rfl) (by kernel_rfl) (by kernel_rfl) (fun _ _ _ h => h) (Or.inl ⟨by rfl, ?_⟩) (SK.out _ tV) ?_
    · rintro w ⟨q0, q1, q2, q3, q4, q5⟩
      go_simp
    simp only [Act.put, List.setIfInBounds_toArray, List.set_cons_zero, List.set_cons_succ]
    refine wpAnyH_done (by kernel_rfl) ?_ _
    go_wp2_with fail
    go_meet
    exact ⟨v5, rfl, rfl, F5.out.le (by have := HSZ.out; have := HZ4.out; omega), HTB.out, tV⟩
  case rest =>
    obtain ⟨v5, rfl, rfl, hf5, hT5, t5⟩ := hcut
    obtain ⟨w5, hw5⟩ : ∃ u, u = wc := ⟨wc, rfl⟩
    subst hw5
    have F5 := hide hf5
    have T5 := hide t5
    have HTB := hide hT5
    have KY := hide (KY.out.turns t5 (fun a n c ee => KA.out a (by cases ee; rfl)))
    have HBX := hide (t5.heap HBX.out NG.out)
    have HZ5 := hide (show w.heap.size ≤ w5.heap.size from by have := HSZ.out; have := t5.size; omega)
    clear hf5 t5 hT5 SK RF PE
    obtain ⟨fa5, fc5, hv5⟩ := F5.out.len
    subst hv5
    have PA := hide (Parse_any fa5 (blkB es).length fc5 (blkB es) w5 F5.out.bytes (by
      rcases F5.out with ⟨e1, e2⟩ | ⟨g, n, c, e1, e2, e3, _⟩
      · rw [e1] at e2 ⊢; cases e2; exact Nat.le_refl _
      · cases e1; omega) HBL.out)
    generalize (blkB es).length = bl at PA ⊢
    go_wp2_with fail
    refine PA.out.mono ?_
    rintro oo w6 ⟨hA | ⟨es', a6, c6, R, hpk6, hes, rfl, hrow, hsh⟩, b6⟩
    · rw [HPK.out] at hA
      cases hA.1
    obtain rfl : es = es' := by rw [HPK.out] at hpk6; exact Option.some.inj hpk6
    have ROW := hide hrow
    have SH := hide hsh
    have HES := hide hes
    have HTB := hide (HTB.out.quiet (Turns.of_below b6 (fun _ => False)))
    have KY := hide (KY.out.below b6)
    have HBX := hide (heap_keep b6 HBX.out)
    have B6 := hide b6
    clear hrow hsh hes b6 PA hpk6
    have hRl : R ≠ [] := fun h => hne (by rw [← HES.out, h]; rfl)
    obtain ⟨m, hm⟩ : ∃ m, R.length = m + 1 := ⟨R.length - 1, by have := List.length_pos_iff.2 hRl; omega⟩
    obtain ⟨y, hy⟩ : ∃ y, R[m]? = some y := ⟨_, List.getElem?_eq_getElem (by omega)⟩
    have hye : y.e = e0 := by
      have h1 := HLAST.out
      rw [← HES.out, List.getLast?_eq_getElem?, ents, List.length_map, hm, List.getElem?_map, show m + 1 - 1 = m by omega, hy] at h1
      simpa using h1
    obtain ⟨b7, off7, ea, hcell⟩ := ((ents_of ROW.out SH.out) m y hy).1
    have hyb := (SH.out y (List.mem_of_getElem? hy)).1
    have hcz : cmpE (y.e.key, y.e.seq) (e.key, e.seq) = 0 := (cmpE_zero _ _).2 (by
      have h2 := HEN.out
      rw [hye]
      exact ⟨congrArg Prod.fst h2, congrArg Prod.snd h2⟩)
    have CP := hide (fun (u : World) (tq : Turns (fun _ => False) w6 u) => compare_any y.ka ka y.va va y.e.key.length y.kc y.e.val.length y.vc e.key.length kc e.val.length vc y.e.kind e.kind y.e.seq e.seq y.e.key e.key u (Bytes.quiet hyb tq) (KY.out.quiet tq))
    rw [hcz] at CP
    subst ea
    obtain ⟨yka, ykc, yva, yvc, ye⟩ := y
    have z0 : w6.cell? ⟨b7, off7 + m * 4, none⟩ = some (.slice yka ye.key.length ykc) := hcell 0 _ rfl
    have z1 : w6.cell? ⟨b7, off7 + m * 4 + 1, none⟩ = some (.int .u64 (ye.seq : Nat)) := hcell 1 _ rfl
    have z2 : w6.cell? ⟨b7, off7 + m * 4 + 2, none⟩ = some (.int .i64 ye.kind) := hcell 2 _ rfl
    have z3 : w6.cell? ⟨b7, off7 + m * 4 + 3, none⟩ = some (.slice yva ye.val.length yvc) := hcell 3 _ rfl
    have x2 := cell_of_row w6 gp 2 _ 147 (0, 0) HBX.out
    have x3 := cell_of_row w6 gp 3 _ 147 (0, 0) HBX.out
    have x4 := cell_of_row w6 gp 4 _ 147 (0, 0) HBX.out
    have x5 := cell_of_row w6 gp 5 _ 147 (0, 0) HBX.out
    simp at x2 x3 x4 x5
    have HMM := hide hm
    have HYE := hide hye
    clear hcell hyb hcz hye hy hRl
    rw [hm]
    have m0 : (0 : Int) ≤ (m : Int) := by omega
    have mb : m ≤ 1000000 := by
      have h1 := congrArg List.length HES.out
      rw [ents, List.length_map] at h1
      have h2 := HMM.out
      omega
    go_upto_region 7 with (fail)
    have SK := hide (fun (u : World) (tq : Turns (fun _ => False) w6 u) => show Cmp8 u b7 off7 m yka ykc ye yva yvc gp ka kc e va vc from ⟨tq.cell z0 (fun x => x), tq.cell z1 (fun x => x), tq.cell z2 (fun x => x), tq.cell z3 (fun x => x), tq.cell x2 (fun x => x), tq.cell x3 (fun x => x), tq.cell x4 (fun x => x), tq.cell x5 (fun x => x)⟩)
    clear z0 z1 z2 z3 x2 x3 x4 x5
    go_cut [55] from 42 to 55 (fun v wx => v = .bool false ∧ Turns (fun _ => False) w6 wx)
    case first =>
      rename_i kk rest jj kk' m1 m2
      clear rest
      have tV : Turns (fun _ => False) w6 w6.drew := (Turns.refl _ _).drew
      refine wp_region_held_drew (S := fun u => Cmp8 u b7 off7 m yka ykc ye yva yvc gp ka kc e va vc) (by kernel_rfl) (SK.out _ tV) (fun _ => ?_)
      change wpAnyH _ _ _ _ _ 14 (Array.replicate 14 false) _ _
      refine wpAnyH_take (i := 0) (oi := { dst := some 42, op := Op.move (Operand.tmp 8), type := 23, pos := "read.go:72", after := #[], guard := none }) (v := .int .i64 0) rfl (by kernel_rfl) (by kernel_rfl) (by kernel_rfl) (fun _ _ _ h => h) (Or.inl ⟨by rfl, ?_⟩) (SK.out _ tV) ?_
      · rintro w ⟨q0, q1, q2, q3, r2, r3, r4, r5⟩
        go_simp
      simp only [Act.put, List.setIfInBounds_toArray, List.set_cons_zero, List.set_cons_succ]
      refine wpAnyH_take (i := 1) (oi := { dst := some 43, op := Op.binOp BinOp.neq 23 (Operand.tmp 42) (Operand.const (Value.int IntKind.i64 0)) 23, type := 4, pos := "read.go:72", after := #[{ on := 0, ground := Ground.data }], guard := none }) (v := .bool false) rfl (by kernel_rfl) (by kernel_rfl) (by kernel_rfl) (fun _ _ _ h => h) (Or.inl ⟨by rfl, ?_⟩) (SK.out _ tV) ?_
      · rintro w ⟨q0, q1, q2, q3, r2, r3, r4, r5⟩
        go_simp
      simp only [Act.put, List.setIfInBounds_toArray, List.set_cons_zero, List.set_cons_succ]
      refine wpAnyH_take (i := 2) (oi := { dst := some 44, op := Op.move (Operand.tmp 43), type := 4, pos := "read.go:72", after := #[{ on := 1, ground := Ground.data }], guard := none }) (v := .bool false) rfl (by kernel_rfl) (by kernel_rfl) (by kernel_rfl) (fun _ _ _ h => h) (Or.inl ⟨by rfl, ?_⟩) (SK.out _ tV) ?_
      · rintro w ⟨q0, q1, q2, q3, r2, r3, r4, r5⟩
        go_simp
      simp only [Act.put, List.setIfInBounds_toArray, List.set_cons_zero, List.set_cons_succ]
      refine wpAnyH_take (i := 3) (oi := { dst := some 45, op := Op.move (Operand.tmp 9), type := 37, pos := "read.go:72", after := #[{ on := 2, ground := Ground.guard }], guard := some (2, false) }) (v := .slice (some ⟨b7, off7, none⟩) (m + 1) c6) rfl (by kernel_rfl) (by kernel_rfl) (by kernel_rfl) (fun _ _ _ h => h) (Or.inl ⟨by rfl, ?_⟩) (SK.out _ tV) ?_
      · rintro w ⟨q0, q1, q2, q3, r2, r3, r4, r5⟩
        go_simp
      simp only [Act.put, List.setIfInBounds_toArray, List.set_cons_zero, List.set_cons_succ]
      refine wpAnyH_take (i := 4) (oi := { dst := some 46, op := Op.move (Operand.tmp 9), type := 37, pos := "read.go:72", after := #[{ on := 2, ground := Ground.guard }], guard := some (2, false) }) (v := .slice (some ⟨b7, off7, none⟩) (m + 1) c6) rfl (by kernel_rfl) (by kernel_rfl) (by kernel_rfl) (fun _ _ _ h => h) (Or.inl ⟨by rfl, ?_⟩) (SK.out _ tV) ?_
      · rintro w ⟨q0, q1, q2, q3, r2, r3, r4, r5⟩
        go_simp
      simp only [Act.put, List.setIfInBounds_toArray, List.set_cons_zero, List.set_cons_succ]
      refine wpAnyH_take (i := 5) (oi := { dst := some 47, op := Op.call { callee := Callee.builtin Builtin.len, args := #[Operand.tmp 46], argTypes := #[37] }, type := 3, pos := "read.go:72", after := #[{ on := 4, ground := Ground.data }, { on := 2, ground := Ground.guard }], guard := some (2, false) }) (v := .int .i64 ((m : Int) + 1)) rfl (by kernel_rfl) (by kernel_rfl) (by kernel_rfl) (fun _ _ _ h => h) (Or.inl ⟨by rfl, ?_⟩) (SK.out _ tV) ?_
      · rintro w ⟨q0, q1, q2, q3, r2, r3, r4, r5⟩
        go_simp
      simp only [Act.put, List.setIfInBounds_toArray, List.set_cons_zero, List.set_cons_succ]
      refine wpAnyH_take (i := 6) (oi := { dst := some 48, op := Op.binOp BinOp.sub 3 (Operand.tmp 47) (Operand.const (Value.int IntKind.i64 1)) 3, type := 3, pos := "read.go:72", after := #[{ on := 5, ground := Ground.data }, { on := 2, ground := Ground.guard }], guard := some (2, false) }) (v := .int .i64 (m : Nat)) rfl (by kernel_rfl) (by kernel_rfl) (by kernel_rfl) (fun _ _ _ h => h) (Or.inl ⟨by rfl, ?_⟩) (SK.out _ tV) ?_
      · rintro w ⟨q0, q1, q2, q3, r2, r3, r4, r5⟩
        go_simp; simp [IntKind.wrap, IntKind.bits, IntKind.signed]; omega
      simp only [Act.put, List.setIfInBounds_toArray, List.set_cons_zero, List.set_cons_succ]
      refine wpAnyH_take (i := 7) (oi := { dst := some 49, op := Op.indexAddr 37 (Operand.tmp 45) (Operand.tmp 48), type := 0, pos := "read.go:72", after := #[{ on := 3, ground := Ground.data }, { on := 6, ground := Ground.data }, { on := 2, ground := Ground.guard }], guard := some (2, false) }) (v := .pointer (some ⟨b7, off7 + m * 4, none⟩)) rfl (by kernel_rfl) (by kernel_rfl) (by kernel_rfl) (fun _ _ _ h => h) (Or.inl ⟨by rfl, ?_⟩) (SK.out _ tV) ?_
      · rintro w ⟨q0, q1, q2, q3, r2, r3, r4, r5⟩
        go_simp; intro hlt; omega
      simp only [Act.put, List.setIfInBounds_toArray, List.set_cons_zero, List.set_cons_succ]
      refine wpAnyH_take (i := 8) (oi := { dst := some 50, op := Op.load 35 (Operand.tmp 49), type := 35, pos := "read.go:72", after := #[{ on := 7, ground := Ground.data }, { on := 2, ground := Ground.guard }], guard := some (2, false) }) (v := .agg #[.slice yka ye.key.length ykc, .int .u64 (ye.seq : Nat), .int .i64 ye.kind, .slice yva ye.val.length yvc]) rfl (by kernel_rfl) (by kernel_rfl) (by kernel_rfl) (fun _ _ _ h => h) (Or.inl ⟨by rfl, ?_⟩) (SK.out _ tV) ?_
      · rintro w ⟨q0, q1, q2, q3, r2, r3, r4, r5⟩
        go_simp
      simp only [Act.put, List.setIfInBounds_toArray, List.set_cons_zero, List.set_cons_succ]
      refine wpAnyH_take (i := 9) (oi := { dst := some 51, op := Op.fieldAddr 147 (Operand.tmp 6) 2, type := 0, pos := "read.go:72", after := #[{ on := 2, ground := Ground.guard }], guard := some (2, false) }) (v := .pointer (some ⟨gp, 2, none⟩)) rfl (by kernel_rfl) (by kernel_rfl) (by kernel_rfl) (fun _ _ _ h => h) (Or.inl ⟨by rfl, ?_⟩) (SK.out _ tV) ?_
      · rintro w ⟨q0, q1, q2, q3, r2, r3, r4, r5⟩
        go_simp
      simp only [Act.put, List.setIfInBounds_toArray, List.set_cons_zero, List.set_cons_succ]
      refine wpAnyH_take (i := 10) (oi := { dst := some 52, op := Op.load 35 (Operand.tmp 51), type := 35, pos := "read.go:72", after := #[{ on := 9, ground := Ground.data }, { on := 2, ground := Ground.guard }], guard := some (2, false) }) (v := .agg #[.slice ka e.key.length kc, .int .u64 (e.seq : Nat), .int .i64 e.kind, .slice va e.val.length vc]) rfl (by kernel_rfl) (by kernel_rfl) (by kernel_rfl) (fun _ _ _ h => h) (Or.inl ⟨by rfl, ?_⟩) (SK.out _ tV) ?_
      · rintro w ⟨q0, q1, q2, q3, r2, r3, r4, r5⟩
        go_simp
      simp only [Act.put, List.setIfInBounds_toArray, List.set_cons_zero, List.set_cons_succ]
      refine wpAnyH_ready (rs := [11]) (by kernel_rfl) (by simp) ?_
      refine AllReadyH.cons rfl (fun K hK => ?_) AllReadyH.nil
      go_simp
      refine (CP.out _ tV).mono ?_
      rintro oo Vn ⟨rfl, b2⟩
      have tN := Turns.of_below b2 (fun _ => False)
      have tV := tV.trans tN
      clear b2 CP
      clear tN
      go_simp
      refine hK.out _ _ (SK.out _ tV) (fun _ => ?_)
      clear hK K
      refine wpAnyH_take (i := 12) (oi := { dst := some 54, op := Op.binOp BinOp.neq 3 (Operand.tmp 53) (Operand.const (Value.int IntKind.i64 0)) 3, type := 4, pos := "read.go:72", after := #[{ on := 11, ground := Ground.data }, { on := 2, ground := Ground.guard }], guard := some (2, false) }) (v := .bool false) rfl (by kernel_rfl) (by kernel_rfl) (by kernel_rfl) (fun _ _ _ h => h) (Or.inl ⟨by rfl, ?_⟩) (SK.out _ tV) ?_
      · rintro w ⟨q0, q1, q2, q3, r2, r3, r4, r5⟩
        go_simp
      simp only [Act.put, List.setIfInBounds_toArray, List.set_cons_zero, List.set_cons_succ]
      refine wpAnyH_take (i := 13) (oi := { dst := some 55, op := Op.pick (Operand.tmp 44) (Operand.const (Value.bool true)) (Operand.tmp 54), type := 4, pos := "read.go:72", after := #[{ on := 2, ground := Ground.data }, { on := 12, ground := Ground.data }], guard := none }) (v := .bool false) rfl (by kernel_rfl) (by kernel_rfl) (by kernel_rfl) (fun _ _ _ h => h) (Or.inl ⟨by rfl, ?_⟩) (SK.out _ tV) ?_
      · rintro w ⟨q0, q1, q2, q3, r2, r3, r4, r5⟩
        go_simp
      simp only [Act.put, List.setIfInBounds_toArray, List.set_cons_zero, List.set_cons_succ]
      refine wpAnyH_done (by kernel_rfl) ?_ _
      go_wp2_with fail
      go_meet
      exact ⟨rfl, tV⟩
    case rest =>
      obtain ⟨rfl, t7⟩ := hcut
      have HTB := hide (HTB.out.quiet t7)
      have ROW := hide ((ROW.out.keep t7 (fun _ _ x => x)))
      have SH := hide (SH.out.keep t7 (fun _ _ _ _ x => x))
      have TT := hide (show Turns (fun k => A k ∨ k = t) w wc from (TT1.out.mono (fun _ _ h => .inr h)).trans ((TA.out.mono (fun _ _ x => x.elim)).trans ((T5.out.mono (fun _ _ h => .inl h)).trans ((Turns.of_below B6.out _).trans (t7.mono (fun _ _ x => x.elim))))))
      have HB5 := hide (show w.heap.size ≤ w5.heap.size from HZ5.out)
      clear t7 SK CP
      go_wp2_with fail
      go_ret2
      refine ⟨some ⟨b7, off7, none⟩, c6, R, by rw [HMM.out]; rfl, HES.out, ROW.out.le HB5.out, SH.out.le HB5.out, HTB.out, TT.out⟩
end Go.Proofs.YtjklbhdhjfifhaaGreat
